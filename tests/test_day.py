import unittest

from flaghill.day import begun, done, handed_over, states, told
from flaghill.errors import LineError, NoWidth

COME = ("come",)
MISS = ("miss",)
TWICE = ("twice",)
ANSWER = ("answer",)
COME_BACK = ("come back",)
MISS_BACK = ("miss back",)
TWICE_BACK = ("twice back",)

ALL_THREE = (told, states, handed_over)
NOTES = ["a", "b", "c", "d", "e", "f", "g"]


def tell(step):
    return ("tell", step)


class DayCase(unittest.TestCase):
    def check(self, notes, width, rows, handed):
        """Each row is a deed, whether it is done, and the state behind it."""
        deeds = [row[0] for row in rows]
        answers = told(notes, width, deeds)
        behind = states(notes, width, deeds)
        self.assertEqual(len(answers), len(rows))
        self.assertEqual(len(behind), len(rows))
        for place, (deed, done, state) in enumerate(rows):
            with self.subTest(place=place, deed=deed):
                self.assertIs(answers[place], done)
                self.assertEqual(behind[place], state)
        self.assertEqual(handed_over(notes, width, deeds), handed)


class TellTest(DayCase):
    def test_every_step_below_the_width_is_done(self):
        for width in (1, 2, 3, 7):
            for step in range(width):
                with self.subTest(width=width, step=step):
                    self.check(NOTES, width, [(tell(step), True, (0, 0, 1, 0))], [])

    def test_a_step_below_nought_is_refused(self):
        # Behind the first round notes of smaller numbers are there, and are still not told.
        opening = [
            (tell(0), True, (0, 0, 1, 0)), (COME, True, (0, 1, 0, 0)),
            (ANSWER, True, (0, 1, 0, 1)), (COME_BACK, True, (1, 1, 0, 0)),
        ]
        for step in (-1, -2, -3, -7, -8, -100, -10 ** 30):
            with self.subTest(step=step):
                self.check(NOTES, 3, [(tell(step), False, (0, 0, 0, 0))], [])
                self.check(NOTES, 3, opening + [(tell(step), False, (1, 1, 0, 0))], ["a"])

    def test_a_step_of_the_width_and_beyond_is_refused(self):
        for width in (1, 2, 3):
            for step in (width, width + 1, 2 * width, 2 * width + 1, 100, 10 ** 30):
                with self.subTest(width=width, step=step):
                    self.check(NOTES, width, [(tell(step), False, (0, 0, 0, 0))], [])

    def test_no_note_of_that_number_is_refused(self):
        self.check(["a", "b"], 3, [
            (tell(2), False, (0, 0, 0, 0)),
            (tell(1), True, (0, 0, 1, 0)),
            (tell(0), True, (0, 0, 2, 0)),
        ], [])

    def test_no_note_of_that_number_behind_a_first_owed_one(self):
        self.check(["a", "b", "c"], 2, [
            (tell(0), True, (0, 0, 1, 0)),
            (tell(1), True, (0, 0, 2, 0)),
            (COME, True, (0, 1, 1, 0)),
            (COME, True, (0, 2, 0, 0)),
            (ANSWER, True, (0, 2, 0, 1)),
            (COME_BACK, True, (2, 2, 0, 0)),
            (tell(1), False, (2, 2, 0, 0)),
            (tell(0), True, (2, 2, 1, 0)),
            (COME, True, (2, 3, 0, 0)),
            (ANSWER, True, (2, 3, 0, 1)),
            (COME_BACK, True, (3, 3, 0, 0)),
            (tell(0), False, (3, 3, 0, 0)),
            (tell(1), False, (3, 3, 0, 0)),
            (tell(-1), False, (3, 3, 0, 0)),
        ], ["a", "b", "c"])

    def test_no_notes(self):
        self.check([], 3, [
            (tell(0), False, (0, 0, 0, 0)),
            (tell(2), False, (0, 0, 0, 0)),
            (tell(-1), False, (0, 0, 0, 0)),
            (COME, False, (0, 0, 0, 0)),
            (ANSWER, True, (0, 0, 0, 1)),
            (COME_BACK, True, (0, 0, 0, 0)),
        ], [])

    def test_as_often_as_it_wants_and_in_any_order(self):
        self.check(NOTES, 3, [
            (tell(2), True, (0, 0, 1, 0)),
            (tell(0), True, (0, 0, 2, 0)),
            (tell(2), True, (0, 0, 3, 0)),
            (tell(1), True, (0, 0, 4, 0)),
            (tell(0), True, (0, 0, 5, 0)),
            (COME, True, (0, 0, 4, 0)),
            (COME, True, (0, 1, 3, 0)),
            (COME, True, (0, 1, 2, 0)),
            (COME, True, (0, 3, 1, 0)),
            (COME, True, (0, 3, 0, 0)),
        ], ["a", "b", "c"])

    def test_the_step_counts_from_the_first_owed_note_not_from_the_next_to_be_handed_over(self):
        self.check(NOTES, 2, [
            (tell(0), True, (0, 0, 1, 0)),
            (COME, True, (0, 1, 0, 0)),
            (tell(0), True, (0, 1, 1, 0)),
            (COME, True, (0, 1, 0, 0)),
            (tell(1), True, (0, 1, 1, 0)),
            (COME, True, (0, 2, 0, 0)),
        ], ["a", "b"])

    def test_the_message_bears_the_note_of_the_time_at_which_it_was_told(self):
        # The first owed note grows while the message is on its way.
        self.check(NOTES, 2, [
            (tell(0), True, (0, 0, 1, 0)),
            (tell(1), True, (0, 0, 2, 0)),
            (COME, True, (0, 1, 1, 0)),
            (ANSWER, True, (0, 1, 1, 1)),
            (COME_BACK, True, (1, 1, 1, 0)),
            (COME, True, (1, 2, 0, 0)),
        ], ["a", "b"])


class LineThereTest(DayCase):
    def test_each_is_refused_where_the_line_is_empty(self):
        for deed in (COME, MISS, TWICE):
            with self.subTest(deed=deed):
                self.check(NOTES, 2, [(deed, False, (0, 0, 0, 0))], [])

    def test_an_answer_on_the_line_back_is_no_message(self):
        for deed in (COME, MISS, TWICE):
            with self.subTest(deed=deed):
                self.check(NOTES, 2, [(ANSWER, True, (0, 0, 0, 1)), (deed, False, (0, 0, 0, 1))], [])

    def test_each_is_refused_once_the_line_has_run_empty(self):
        for deed in (COME, MISS, TWICE):
            with self.subTest(deed=deed):
                self.check(NOTES, 2, [
                    (tell(1), True, (0, 0, 1, 0)),
                    (COME, True, (0, 0, 0, 0)),
                    (deed, False, (0, 0, 0, 0)),
                ], [])

    def test_come_takes_the_foremost(self):
        self.check(NOTES, 2, [
            (tell(0), True, (0, 0, 1, 0)),
            (tell(1), True, (0, 0, 2, 0)),
            (COME, True, (0, 1, 1, 0)),
        ], ["a"])

    def test_miss_loses_the_foremost(self):
        self.check(NOTES, 2, [
            (tell(0), True, (0, 0, 1, 0)),
            (tell(1), True, (0, 0, 2, 0)),
            (MISS, True, (0, 0, 1, 0)),
            (COME, True, (0, 0, 0, 0)),
            (tell(0), True, (0, 0, 1, 0)),
            (COME, True, (0, 2, 0, 0)),
        ], ["a", "b"])

    def test_twice_puts_a_copy_straight_behind_the_foremost(self):
        self.check(NOTES, 3, [
            (tell(0), True, (0, 0, 1, 0)),
            (tell(1), True, (0, 0, 2, 0)),
            (tell(2), True, (0, 0, 3, 0)),
            (TWICE, True, (0, 0, 4, 0)),
            (MISS, True, (0, 0, 3, 0)),
            (COME, True, (0, 1, 2, 0)),
            (COME, True, (0, 2, 1, 0)),
            (COME, True, (0, 3, 0, 0)),
        ], ["a", "b", "c"])

    def test_twice_of_one_alone_and_of_a_copy(self):
        self.check(NOTES, 1, [
            (tell(0), True, (0, 0, 1, 0)),
            (TWICE, True, (0, 0, 2, 0)),
            (TWICE, True, (0, 0, 3, 0)),
            (MISS, True, (0, 0, 2, 0)),
            (MISS, True, (0, 0, 1, 0)),
            (COME, True, (0, 1, 0, 0)),
            (COME, False, (0, 1, 0, 0)),
        ], ["a"])

    def test_an_old_message_hands_nothing_over(self):
        self.check(NOTES, 1, [
            (tell(0), True, (0, 0, 1, 0)),
            (TWICE, True, (0, 0, 2, 0)),
            (COME, True, (0, 1, 1, 0)),
            (COME, True, (0, 1, 0, 0)),
            (tell(0), True, (0, 1, 1, 0)),
            (COME, True, (0, 1, 0, 0)),
        ], ["a"])

    def test_the_far_hill_still_knows_what_waits_on_its_shelf(self):
        self.check(NOTES, 3, [
            (tell(2), True, (0, 0, 1, 0)),
            (COME, True, (0, 0, 0, 0)),
            (tell(0), True, (0, 0, 1, 0)),
            (COME, True, (0, 1, 0, 0)),
            (ANSWER, True, (0, 1, 0, 1)),
            (COME_BACK, True, (1, 1, 0, 0)),
            (tell(2), True, (1, 1, 1, 0)),
            (COME, True, (1, 1, 0, 0)),
            (tell(0), True, (1, 1, 1, 0)),
            (COME, True, (1, 4, 0, 0)),
        ], ["a", "b", "c", "d"])


class LineBackTest(DayCase):
    def test_each_is_refused_where_the_line_is_empty(self):
        for deed in (COME_BACK, MISS_BACK, TWICE_BACK):
            with self.subTest(deed=deed):
                self.check(NOTES, 2, [(deed, False, (0, 0, 0, 0))], [])

    def test_a_message_on_the_line_there_is_no_answer(self):
        for deed in (COME_BACK, MISS_BACK, TWICE_BACK):
            with self.subTest(deed=deed):
                self.check(NOTES, 2, [(tell(0), True, (0, 0, 1, 0)), (deed, False, (0, 0, 1, 0))], [])

    def test_each_is_refused_once_the_line_has_run_empty(self):
        for deed in (COME_BACK, MISS_BACK, TWICE_BACK):
            with self.subTest(deed=deed):
                self.check(NOTES, 2, [
                    (ANSWER, True, (0, 0, 0, 1)),
                    (MISS_BACK, True, (0, 0, 0, 0)),
                    (deed, False, (0, 0, 0, 0)),
                ], [])

    def test_an_answer_is_never_refused(self):
        for notes in ([], NOTES):
            rows = [(ANSWER, True, (0, 0, 0, how_many)) for how_many in range(1, 12)]
            with self.subTest(notes=len(notes)):
                self.check(notes, 1, rows, [])

    def test_the_answer_tells_how_many_were_handed_over_when_it_was_given(self):
        self.check(NOTES, 2, [
            (ANSWER, True, (0, 0, 0, 1)),
            (tell(0), True, (0, 0, 1, 1)),
            (COME, True, (0, 1, 0, 1)),
            (ANSWER, True, (0, 1, 0, 2)),
            (tell(1), True, (0, 1, 1, 2)),
            (COME, True, (0, 2, 0, 2)),
            (COME_BACK, True, (0, 2, 0, 1)),
            (COME_BACK, True, (1, 2, 0, 0)),
        ], ["a", "b"])

    def test_what_waits_on_the_shelf_is_not_counted(self):
        self.check(NOTES, 2, [
            (tell(1), True, (0, 0, 1, 0)),
            (COME, True, (0, 0, 0, 0)),
            (ANSWER, True, (0, 0, 0, 1)),
            (COME_BACK, True, (0, 0, 0, 0)),
        ], [])

    def three_answers(self):
        """The answers nought, one and two on the line back, with the width 2."""
        return [
            (ANSWER, True, (0, 0, 0, 1)),
            (tell(0), True, (0, 0, 1, 1)),
            (COME, True, (0, 1, 0, 1)),
            (ANSWER, True, (0, 1, 0, 2)),
            (tell(1), True, (0, 1, 1, 2)),
            (COME, True, (0, 2, 0, 2)),
            (ANSWER, True, (0, 2, 0, 3)),
        ]

    def test_come_back_takes_the_foremost(self):
        self.check(NOTES, 2, self.three_answers() + [
            (COME_BACK, True, (0, 2, 0, 2)),
            (COME_BACK, True, (1, 2, 0, 1)),
            (COME_BACK, True, (2, 2, 0, 0)),
        ], ["a", "b"])

    def test_miss_back_loses_the_foremost(self):
        self.check(NOTES, 2, self.three_answers() + [
            (MISS_BACK, True, (0, 2, 0, 2)),
            (COME_BACK, True, (1, 2, 0, 1)),
            (MISS_BACK, True, (1, 2, 0, 0)),
            (COME_BACK, False, (1, 2, 0, 0)),
        ], ["a", "b"])

    def test_an_answer_leads_on_by_the_width(self):
        self.check(NOTES, 2, self.three_answers() + [
            (MISS_BACK, True, (0, 2, 0, 2)),
            (MISS_BACK, True, (0, 2, 0, 1)),
            (COME_BACK, True, (2, 2, 0, 0)),
        ], ["a", "b"])

    def test_twice_back_puts_a_copy_straight_behind_the_foremost(self):
        self.check(NOTES, 2, self.three_answers() + [
            (MISS_BACK, True, (0, 2, 0, 2)),
            (TWICE_BACK, True, (0, 2, 0, 3)),
            (MISS_BACK, True, (0, 2, 0, 2)),
            (COME_BACK, True, (1, 2, 0, 1)),
            (TWICE_BACK, True, (1, 2, 0, 2)),
            (COME_BACK, True, (2, 2, 0, 1)),
            (COME_BACK, True, (2, 2, 0, 0)),
            (TWICE_BACK, False, (2, 2, 0, 0)),
        ], ["a", "b"])


class ShownTest(unittest.TestCase):
    """What is on the lines shows marks, which the states can't tell from the numbers themselves."""

    def day_behind(self, width, rounds):
        day = begun(["x"] * 20, width)
        for number in range(rounds):
            for deed in (tell(0), COME, ANSWER, COME_BACK):
                self.assertIs(done(day, deed), True)
        return day

    def test_a_message_is_a_pair_of_the_mark_and_the_note(self):
        for width, rounds, step, mark in ((2, 0, 0, 0), (2, 3, 0, 3), (2, 3, 1, 0), (2, 4, 0, 0), (2, 9, 1, 2),
                                          (1, 1, 0, 1), (1, 2, 0, 0), (3, 5, 2, 1), (100, 7, 5, 12)):
            with self.subTest(width=width, rounds=rounds, step=step):
                day = self.day_behind(width, rounds)
                done(day, tell(step))
                self.assertEqual(day.there.take_foremost(), (mark, "x"))

    def test_an_answer_is_the_mark_of_how_many_were_handed_over(self):
        for width, rounds, mark in ((2, 0, 0), (2, 3, 3), (2, 4, 0), (2, 9, 1), (1, 1, 1), (1, 2, 0), (3, 7, 1),
                                    (100, 7, 7)):
            with self.subTest(width=width, rounds=rounds):
                day = self.day_behind(width, rounds)
                done(day, ANSWER)
                self.assertEqual(day.back.take_foremost(), mark)


class RefusedTest(DayCase):
    def test_refused_deeds_between_the_others_change_nothing(self):
        deeds = [tell(1), tell(0), TWICE, COME, ANSWER, COME, COME, COME_BACK, tell(1), COME, ANSWER, COME_BACK]
        for refused in (tell(-1), tell(2), tell(3), tell(10 ** 20)):
            mixed = [refused]
            for deed in deeds:
                mixed = mixed + [deed, refused]
            with self.subTest(refused=refused):
                self.assertEqual(told(NOTES, 2, mixed)[1::2], told(NOTES, 2, deeds))
                self.assertEqual(states(NOTES, 2, mixed)[1::2], states(NOTES, 2, deeds))
                self.assertEqual(states(NOTES, 2, mixed)[2::2], states(NOTES, 2, deeds))
                self.assertEqual(told(NOTES, 2, mixed)[::2], [False] * (len(deeds) + 1))
                self.assertEqual(handed_over(NOTES, 2, mixed), handed_over(NOTES, 2, deeds))

    def test_the_day_goes_on_behind_all_the_refusals(self):
        self.check(["a"], 1, [
            (COME, False, (0, 0, 0, 0)),
            (MISS, False, (0, 0, 0, 0)),
            (TWICE, False, (0, 0, 0, 0)),
            (COME_BACK, False, (0, 0, 0, 0)),
            (MISS_BACK, False, (0, 0, 0, 0)),
            (TWICE_BACK, False, (0, 0, 0, 0)),
            (tell(1), False, (0, 0, 0, 0)),
            (tell(-1), False, (0, 0, 0, 0)),
            (tell(0), True, (0, 0, 1, 0)),
            (COME, True, (0, 1, 0, 0)),
            (ANSWER, True, (0, 1, 0, 1)),
            (COME_BACK, True, (1, 1, 0, 0)),
        ], ["a"])

    def test_what_is_no_deed_at_all_is_told_as_an_error(self):
        # The document never hands such in; a slip of the pen is still not to pass for a deed.
        for function in ALL_THREE:
            with self.subTest(function=function.__name__):
                self.assertRaises(LineError, function, NOTES, 2, [ANSWER, ("come  back",)])


class NotesTest(DayCase):
    def test_no_deeds(self):
        for notes in ([], NOTES):
            for function in ALL_THREE:
                with self.subTest(notes=len(notes), function=function.__name__):
                    self.assertEqual(function(notes, 2, []), [])

    def test_empty_notes(self):
        self.check(["", "", "c"], 2, [
            (tell(1), True, (0, 0, 1, 0)),
            (COME, True, (0, 0, 0, 0)),
            (tell(0), True, (0, 0, 1, 0)),
            (COME, True, (0, 2, 0, 0)),
            (ANSWER, True, (0, 2, 0, 1)),
            (COME_BACK, True, (2, 2, 0, 0)),
            (tell(0), True, (2, 2, 1, 0)),
            (COME, True, (2, 3, 0, 0)),
        ], ["", "", "c"])

    def test_equal_notes_are_each_handed_over_once(self):
        self.check(["a", "a", "a"], 2, [
            (tell(0), True, (0, 0, 1, 0)),
            (TWICE, True, (0, 0, 2, 0)),
            (COME, True, (0, 1, 1, 0)),
            (COME, True, (0, 1, 0, 0)),
            (tell(1), True, (0, 1, 1, 0)),
            (COME, True, (0, 2, 0, 0)),
        ], ["a", "a"])

    def test_notes_that_look_like_marks_or_deeds(self):
        notes = ["0", "None", "come", "\u2691 \n"]
        deeds = []
        for number in range(4):
            deeds = deeds + [tell(0), COME, ANSWER, COME_BACK]
        self.assertEqual(handed_over(notes, 1, deeds), notes)


class WidthTest(DayCase):
    def test_width_one_goes_note_by_note(self):
        notes = [f"note {number}" for number in range(9)]
        rows = []
        for number in range(9):
            rows = rows + [
                (tell(1), False, (number, number, 0, 0)),
                (tell(0), True, (number, number, 1, 0)),
                (TWICE, True, (number, number, 2, 0)),
                (COME, True, (number, number + 1, 1, 0)),
                (COME, True, (number, number + 1, 0, 0)),
                (ANSWER, True, (number, number + 1, 0, 1)),
                (TWICE_BACK, True, (number, number + 1, 0, 2)),
                (COME_BACK, True, (number + 1, number + 1, 0, 1)),
                (COME_BACK, True, (number + 1, number + 1, 0, 0)),
            ]
        self.check(notes, 1, rows, notes)

    def test_the_whole_width_told_backwards(self):
        for width in (2, 3, 100, 101, 130):
            notes = [f"note {number}" for number in range(3 * width)]
            rows = []
            for first in (0, width, 2 * width):
                rows = rows + self.backwards(first, width)
            with self.subTest(width=width):
                self.check(notes, width, rows, notes)

    def backwards(self, first, width):
        rows = [(tell(width), False, (first, first, 0, 0))]
        for told_yet in range(1, width + 1):
            rows.append((tell(width - told_yet), True, (first, first, told_yet, 0)))
        for left in range(width - 1, 0, -1):
            rows.append((COME, True, (first, first, left, 0)))
        behind = first + width
        return rows + [
            (COME, True, (first, behind, 0, 0)),
            (ANSWER, True, (first, behind, 0, 1)),
            (COME_BACK, True, (behind, behind, 0, 0)),
        ]

    def test_the_last_step_of_wide_widths(self):
        for width in (100, 101, 130):
            notes = ["x"] * (width + 5)
            with self.subTest(width=width):
                self.check(notes, width, [
                    (tell(width - 1), True, (0, 0, 1, 0)),
                    (tell(width), False, (0, 0, 1, 0)),
                    (tell(width + 1), False, (0, 0, 1, 0)),
                ], [])

    def test_a_width_wider_than_the_notes(self):
        self.check(["a"], 100, [
            (tell(1), False, (0, 0, 0, 0)),
            (tell(99), False, (0, 0, 0, 0)),
            (tell(0), True, (0, 0, 1, 0)),
            (COME, True, (0, 1, 0, 0)),
        ], ["a"])

    def test_more_notes_and_deeds_than_the_document_bounds_are_not_refused(self):
        notes = [f"note {number}" for number in range(230)]
        deeds = []
        for number in range(230):
            deeds = deeds + [tell(0), TWICE, COME, MISS, tell(-1), ANSWER, TWICE_BACK, MISS_BACK, COME_BACK]
        self.assertGreater(len(deeds), 2000)
        self.assertTrue(handed_over(notes, 3, deeds) == notes)
        self.assertEqual(states(notes, 3, deeds)[-1], (230, 230, 0, 0))
        self.assertEqual(told(notes, 3, deeds).count(False), 230)

    def test_a_width_below_one_is_refused(self):
        for width in (0, -1, -2, -100, -10 ** 30):
            for notes in ([], ["a"], NOTES):
                for deeds in ([], [tell(0)], [COME], [ANSWER], [tell(-1), COME, ANSWER, COME_BACK]):
                    for function in ALL_THREE:
                        with self.subTest(width=width, notes=notes, deeds=deeds, function=function.__name__):
                            with self.assertRaises(NoWidth) as taken:
                                function(notes, width, deeds)
                            self.assertIs(type(taken.exception), NoWidth)
                            self.assertIsInstance(taken.exception, LineError)

    def test_width_one_is_not_refused(self):
        for function in ALL_THREE:
            with self.subTest(function=function.__name__):
                self.assertEqual(function([], 1, []), [])


class HandedInTest(DayCase):
    DEEDS = (tell(1), tell(0), TWICE, COME, COME, COME, MISS, tell(5), ANSWER, TWICE_BACK, COME_BACK, MISS_BACK,
             COME_BACK, tell(0), COME)

    def test_notes_and_deeds_stay_as_they_were(self):
        for function in ALL_THREE:
            notes = list(NOTES)
            deeds = list(self.DEEDS)
            with self.subTest(function=function.__name__):
                function(notes, 2, deeds)
                self.assertEqual(notes, NOTES)
                self.assertEqual(deeds, list(self.DEEDS))

    def test_they_stay_so_where_the_width_is_refused(self):
        for function in ALL_THREE:
            notes = list(NOTES)
            deeds = list(self.DEEDS)
            with self.subTest(function=function.__name__):
                self.assertRaises(NoWidth, function, notes, 0, deeds)
                self.assertEqual(notes, NOTES)
                self.assertEqual(deeds, list(self.DEEDS))

    def test_the_answer_is_a_list_of_its_own(self):
        for function in ALL_THREE:
            notes = list(NOTES)
            deeds = list(self.DEEDS)
            with self.subTest(function=function.__name__):
                answer = function(notes, 2, deeds)
                kept = list(answer)
                answer.append("scratch")
                answer[0] = "scratch"
                self.assertEqual((notes, deeds), (NOTES, list(self.DEEDS)))
                self.assertEqual(function(notes, 2, deeds), kept)

    def test_one_day_keeps_nothing_for_the_next(self):
        for function in ALL_THREE:
            with self.subTest(function=function.__name__):
                once = function(NOTES, 2, list(self.DEEDS))
                function(["x", "y"], 3, [tell(0), tell(1), COME, ANSWER])
                self.assertEqual(function(NOTES, 2, list(self.DEEDS)), once)

    def test_the_kinds_of_the_answers(self):
        deeds = list(self.DEEDS)
        self.assertIs(type(told(NOTES, 2, deeds)), list)
        self.assertEqual({type(done) for done in told(NOTES, 2, deeds)}, {bool})
        self.assertIs(type(states(NOTES, 2, deeds)), list)
        for state in states(NOTES, 2, deeds):
            self.assertIs(type(state), tuple)
            self.assertEqual([type(number) for number in state], [int, int, int, int])
        self.assertIs(type(handed_over(NOTES, 2, deeds)), list)
        self.assertEqual({type(note) for note in handed_over(NOTES, 2, deeds)}, {str})

    def test_the_arguments_bear_their_names(self):
        self.assertEqual(told(notes=["a"], width=1, deeds=[tell(0), COME]), [True, True])
        self.assertEqual(states(notes=["a"], width=1, deeds=[tell(0), COME]), [(0, 0, 1, 0), (0, 1, 0, 0)])
        self.assertEqual(handed_over(notes=["a"], width=1, deeds=[tell(0), COME]), ["a"])


if __name__ == "__main__":
    unittest.main()
