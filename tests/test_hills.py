import unittest

from flaghill.hills import heard, laid
from flaghill.marks import mark_of

WIDTHS = (1, 2, 3, 7, 99, 100, 101, 130)
HUNDRED_FIGURES = 10 ** 99


def free(width):
    return [None for place in range(width)]


def shelf_with(width, notes):
    """A shelf that holds the notes of a dict on the places that are its keys."""
    return [notes.get(place) for place in range(width)]


def many(how_many):
    return [f"note {number}" for number in range(how_many)]


class LaidTest(unittest.TestCase):
    def test_a_message_for_place_nought_is_handed_over_at_once(self):
        self.assertEqual(laid([], [None, None, None], 0, "a"), (["a"], [None, None, None]))
        self.assertEqual(laid(["a", "b"], [None, None, None], 2, "c"), (["a", "b", "c"], [None, None, None]))

    def test_a_message_for_a_place_in_the_middle_waits(self):
        self.assertEqual(laid([], [None, None, None], 1, "b"), ([], [None, "b", None]))
        self.assertEqual(laid(["a", "b"], [None, None, None], 3, "d"), (["a", "b"], [None, "d", None]))

    def test_a_message_for_the_last_place_waits(self):
        self.assertEqual(laid([], [None, None, None], 2, "c"), ([], [None, None, "c"]))
        self.assertEqual(laid(["a", "b"], [None, None, None], 4, "e"), (["a", "b"], [None, None, "e"]))

    def test_the_other_places_stay_as_they_are(self):
        self.assertEqual(laid([], [None, "b", None, "d"], 2, "c"), ([], [None, "b", "c", "d"]))

    def test_what_lay_on_the_place_goes(self):
        self.assertEqual(laid([], [None, "old", "c"], 1, "new"), ([], [None, "new", "c"]))
        self.assertEqual(laid(["a"], [None, "c", "old"], 3, "new"), (["a"], [None, "c", "new"]))
        self.assertEqual(laid([], [None, "old"], 1, "old"), ([], [None, "old"]))

    def test_an_old_message_changes_nothing(self):
        # From 4 on, with the width 3, the marks 4, 5 and 0 lead on by less than the width.
        handed = many(4)
        for mark in (1, 2, 3):
            with self.subTest(mark=mark):
                self.assertEqual(laid(handed, [None, "f", None], mark, "x"), (many(4), [None, "f", None]))

    def test_every_mark_of_every_width(self):
        for width in WIDTHS:
            for how_many in (0, 1, width - 1, width, 2 * width - 1, 2 * width, 2 * width + 1):
                handed = many(how_many)
                for steps in range(2 * width):
                    answer = laid(handed, free(width), mark_of(how_many + steps, width), "here")
                    with self.subTest(width=width, how_many=how_many, steps=steps):
                        self.check_one_message(answer, handed, width, steps)

    def check_one_message(self, answer, handed, width, steps):
        handed_now = handed + ["here"] if steps == 0 else handed
        shelf_now = shelf_with(width, {steps: "here"} if 0 < steps < width else {})
        # Asked as True, for unittest is slow to tell two long lists apart.
        self.assertTrue(answer[0] == handed_now)
        self.assertTrue(answer[1] == shelf_now)

    def test_several_are_handed_over_at_once(self):
        self.assertEqual(laid([], [None, "b", "c", None], 0, "a"), (["a", "b", "c"], [None, None, None, None]))

    def test_only_up_to_the_first_free_place(self):
        answer = laid(["a"], [None, "c", None, "e", None, "g"], 1, "b")
        self.assertEqual(answer, (["a", "b", "c"], [None, "e", None, "g", None, None]))

    def test_the_whole_shelf_is_handed_over(self):
        self.assertEqual(laid([], [None, "b", "c"], 0, "a"), (["a", "b", "c"], [None, None, None]))
        notes = many(300)
        handed, shelf = laid(notes[:200], [None] + notes[201:300], 0, notes[200])
        self.assertTrue(handed == notes)
        self.assertTrue(shelf == free(100))

    def test_an_empty_note_in_the_message(self):
        self.assertEqual(laid([], [None, None], 0, ""), ([""], [None, None]))
        self.assertEqual(laid([], [None, None], 1, ""), ([], [None, ""]))
        self.assertEqual(laid([], [None, "b"], 1, ""), ([], [None, ""]))
        self.assertEqual(laid([], [None, "b"], 0, ""), (["", "b"], [None, None]))

    def test_an_empty_note_on_the_shelf(self):
        self.assertEqual(laid([], [None, "", "c"], 0, "a"), (["a", "", "c"], [None, None, None]))
        self.assertEqual(laid([], [None, "", None], 0, ""), (["", ""], [None, None, None]))
        self.assertEqual(laid([], [None, "", None], 2, "c"), ([], [None, "", "c"]))
        self.assertEqual(laid([], [None, "", None], 1, "b"), ([], [None, "b", None]))
        self.assertEqual(laid([""], [None, ""], 0, "old"), ([""], [None, ""]))

    def test_an_empty_note_behind_a_free_place(self):
        self.assertEqual(laid([], [None, None, ""], 0, "a"), (["a"], [None, "", None]))

    def test_equal_notes(self):
        self.assertEqual(laid(["a"], [None, "a", None], 1, "a"), (["a", "a", "a"], [None, None, None]))
        self.assertEqual(laid(["a"], [None, None, "a"], 2, "a"), (["a"], [None, "a", "a"]))

    def test_a_shelf_of_one_place(self):
        self.assertEqual(laid([], [None], 0, "a"), (["a"], [None]))
        self.assertEqual(laid([], [None], 1, "x"), ([], [None]))
        self.assertEqual(laid(["a"], [None], 1, "b"), (["a", "b"], [None]))
        self.assertEqual(laid(["a"], [None], 0, "a"), (["a"], [None]))
        self.assertEqual(laid(["a", "b"], [None], 0, "c"), (["a", "b", "c"], [None]))

    def test_a_shelf_of_a_hundred_places(self):
        self.assertEqual(laid([], free(100), 99, "z"), ([], free(99) + ["z"]))
        self.assertEqual(laid([], free(100), 100, "x"), ([], free(100)))
        self.assertEqual(laid([], free(100), 199, "x"), ([], free(100)))
        self.assertEqual(laid(many(150), free(100), 49, "z")[1], free(99) + ["z"])
        self.assertEqual(laid(many(150), free(100), 50, "x")[1], free(100))

    def test_many_handed_over_already(self):
        handed = many(1234)
        # 1234 is 154 times eight and 2 more.
        cases = ((2, (1, {})), (3, (0, {1: "new"})), (4, (0, {2: "new"})), (5, (0, {3: "new"})),
                 (6, (0, {})), (7, (0, {})), (0, (0, {})), (1, (0, {})))
        for mark, (more, lying) in cases:
            with self.subTest(mark=mark):
                handed_now, shelf_now = laid(handed, free(4), mark, "new")
                self.assertTrue(handed_now == handed + ["new"] * more)
                self.assertEqual(shelf_now, shelf_with(4, lying))

    def test_what_is_handed_in_stays_as_it_was(self):
        # A message handed over, one that waits, one on a place that is held, and an old one.
        for mark, note in ((1, "b"), (3, "d"), (2, "other"), (0, "a"), (4, "x")):
            handed = ["a"]
            shelf = [None, "c", None]
            with self.subTest(mark=mark):
                laid(handed, shelf, mark, note)
                self.assertEqual(handed, ["a"])
                self.assertEqual(shelf, [None, "c", None])

    def test_the_lists_of_the_answer_are_others(self):
        for mark, note in ((1, "b"), (3, "d"), (2, "other"), (0, "a"), (4, "x")):
            handed = ["a"]
            shelf = [None, "c", None]
            with self.subTest(mark=mark):
                handed_now, shelf_now = laid(handed, shelf, mark, note)
                self.assertIsNot(handed_now, handed)
                self.assertIsNot(shelf_now, shelf)
                self.assertIsNot(handed_now, shelf_now)
                handed_now.append("scratch")
                shelf_now[1] = "scratch"
                self.assertEqual((handed, shelf), (["a"], [None, "c", None]))

    def test_the_kinds_of_the_answer(self):
        for mark in range(6):
            with self.subTest(mark=mark):
                answer = laid([], [None, None, None], mark, "a")
                self.assertIs(type(answer), tuple)
                self.assertEqual([type(part) for part in answer], [list, list])
                self.assertEqual(len(answer[1]), 3)

    def test_the_arguments_bear_their_names(self):
        self.assertEqual(laid(handed=["a"], shelf=[None, "c"], mark=1, note="b"), (["a", "b", "c"], [None, None]))


class HeardTest(unittest.TestCase):
    def test_no_steps(self):
        self.assertEqual(heard(0, 0, 2), 0)
        self.assertEqual(heard(3, 3, 2), 3)
        self.assertEqual(heard(7, 3, 2), 7)

    def test_one_step(self):
        self.assertEqual(heard(0, 1, 2), 1)
        self.assertEqual(heard(3, 0, 2), 4)
        self.assertEqual(heard(7, 0, 2), 8)

    def test_the_width(self):
        self.assertEqual(heard(0, 2, 2), 2)
        self.assertEqual(heard(3, 1, 2), 5)

    def test_twice_the_width_less_one(self):
        self.assertEqual(heard(0, 3, 2), 3)
        self.assertEqual(heard(3, 2, 2), 6)
        self.assertEqual(heard(4, 3, 2), 7)

    def test_width_one(self):
        self.assertEqual([heard(0, mark, 1) for mark in (0, 1)], [0, 1])
        self.assertEqual([heard(1, mark, 1) for mark in (0, 1)], [2, 1])
        self.assertEqual([heard(8, mark, 1) for mark in (0, 1)], [8, 9])

    def test_width_a_hundred(self):
        rows = ((0, 0, 0), (0, 100, 100), (0, 199, 199), (150, 150, 150), (150, 151, 151), (150, 50, 250),
                (150, 149, 349), (199, 0, 200), (200, 199, 399))
        for first, mark, behind in rows:
            with self.subTest(first=first, mark=mark):
                self.assertEqual(heard(first, mark, 100), behind)

    def test_every_mark_of_every_width(self):
        for width in WIDTHS:
            for first in (0, 1, width - 1, width, 2 * width - 1, 2 * width, 5 * width + 1):
                for steps in range(2 * width):
                    with self.subTest(width=width, first=first, steps=steps):
                        self.assertEqual(heard(first, mark_of(first + steps, width), width), first + steps)

    def test_a_first_owed_note_of_a_hundred_figures(self):
        self.assertEqual(len(str(HUNDRED_FIGURES)), 100)
        # The mark of this number is 0 with the widths 1 and 100, and 4 with the width 3.
        for width, mark, steps in ((1, 0, 0), (1, 1, 1), (100, 0, 0), (100, 1, 1), (100, 100, 100), (100, 199, 199),
                                   (3, 4, 0), (3, 5, 1), (3, 1, 3), (3, 3, 5)):
            with self.subTest(width=width, mark=mark):
                self.assertEqual(heard(HUNDRED_FIGURES, mark, width), HUNDRED_FIGURES + steps)

    def test_a_whole_number(self):
        for mark in range(4):
            with self.subTest(mark=mark):
                self.assertIs(type(heard(5, mark, 2)), int)

    def test_the_arguments_bear_their_names(self):
        self.assertEqual(heard(first=3, mark=1, width=2), 5)


if __name__ == "__main__":
    unittest.main()
