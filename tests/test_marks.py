import unittest

from flaghill.marks import mark_of, steps_on

WIDTHS = (1, 2, 3, 7, 99, 100, 101, 130)
HUNDRED_FIGURES = 10 ** 99


def marks_by_counting(width, how_many):
    """The marks of the numbers from nought on, counted up and begun anew behind the last one."""
    marks = []
    mark = 0
    for number in range(how_many):
        marks.append(mark)
        mark = 0 if mark == 2 * width - 1 else mark + 1
    return marks


def steps_by_walking(start_mark, mark, width):
    """The steps of one from a number with start_mark until a number with mark is met."""
    steps = 0
    here = start_mark
    while here != mark:
        here = 0 if here == 2 * width - 1 else here + 1
        steps += 1
    return steps


class MarkOfTest(unittest.TestCase):
    def test_the_row_of_the_document(self):
        self.assertEqual([mark_of(number, 2) for number in range(10)], [0, 1, 2, 3, 0, 1, 2, 3, 0, 1])

    def test_width_one(self):
        self.assertEqual([mark_of(number, 1) for number in range(6)], [0, 1, 0, 1, 0, 1])

    def test_width_a_hundred(self):
        pairs = ((0, 0), (1, 1), (99, 99), (100, 100), (199, 199), (200, 0), (201, 1), (399, 199), (400, 0))
        for number, mark in pairs:
            with self.subTest(number=number):
                self.assertEqual(mark_of(number, 100), mark)

    def test_widths_beyond_a_hundred_are_not_refused(self):
        pairs = ((101, 201, 201), (101, 202, 0), (101, 203, 1), (130, 259, 259), (130, 260, 0), (130, 261, 1))
        for width, number, mark in pairs:
            with self.subTest(width=width, number=number):
                self.assertEqual(mark_of(number, width), mark)

    def test_the_mark_of_nought_is_nought(self):
        for width in WIDTHS:
            with self.subTest(width=width):
                self.assertEqual(mark_of(0, width), 0)

    def test_round_about_twice_the_width(self):
        for width in WIDTHS:
            with self.subTest(width=width):
                self.assertEqual(mark_of(2 * width - 1, width), 2 * width - 1)
                self.assertEqual(mark_of(2 * width, width), 0)
                self.assertEqual(mark_of(2 * width + 1, width), 1)

    def test_the_width_itself_begins_no_new_round(self):
        for width in WIDTHS:
            with self.subTest(width=width):
                self.assertEqual(mark_of(width, width), width)

    def test_against_counting(self):
        for width in WIDTHS:
            with self.subTest(width=width):
                # One by one, for unittest is slow to tell two long lists apart.
                for number, mark in enumerate(marks_by_counting(width, 700)):
                    self.assertEqual(mark_of(number, width), mark, number)

    def test_a_number_of_a_hundred_figures(self):
        self.assertEqual(len(str(HUNDRED_FIGURES)), 100)
        # Ten times over, what is left at division by 6 stays 4, and at 200 it is 0 from a thousand on.
        self.assertEqual(mark_of(HUNDRED_FIGURES, 1), 0)
        self.assertEqual(mark_of(HUNDRED_FIGURES + 1, 1), 1)
        self.assertEqual(mark_of(HUNDRED_FIGURES, 3), 4)
        self.assertEqual(mark_of(HUNDRED_FIGURES + 7, 100), 7)
        self.assertEqual(mark_of(HUNDRED_FIGURES - 1 + HUNDRED_FIGURES, 100), 199)

    def test_the_mark_is_a_whole_number(self):
        for number in (0, 1, 5, HUNDRED_FIGURES):
            with self.subTest(number=number):
                self.assertIs(type(mark_of(number, 2)), int)

    def test_the_arguments_bear_their_names(self):
        self.assertEqual(mark_of(number=5, width=2), 1)


class StepsOnTest(unittest.TestCase):
    def test_the_examples_of_the_document(self):
        self.assertEqual(steps_on(3, 1, 2), 2)
        self.assertEqual(steps_on(3, 3, 2), 0)

    def test_width_one(self):
        self.assertEqual([steps_on(0, mark, 1) for mark in (0, 1)], [0, 1])
        self.assertEqual([steps_on(1, mark, 1) for mark in (0, 1)], [1, 0])
        self.assertEqual([steps_on(2, mark, 1) for mark in (0, 1)], [0, 1])

    def test_width_a_hundred(self):
        rows = ((0, 0, 0), (0, 199, 199), (199, 199, 0), (199, 0, 1), (199, 198, 199), (200, 0, 0), (201, 0, 199))
        for number, mark, steps in rows:
            with self.subTest(number=number, mark=mark):
                self.assertEqual(steps_on(number, mark, 100), steps)

    def test_widths_beyond_a_hundred_are_not_refused(self):
        rows = ((101, 201, 0, 1), (101, 202, 201, 201), (130, 259, 259, 0), (130, 261, 0, 259))
        for width, number, mark, steps in rows:
            with self.subTest(width=width, number=number, mark=mark):
                self.assertEqual(steps_on(number, mark, width), steps)

    def test_no_steps_to_a_number_s_own_mark(self):
        for width in WIDTHS:
            for number, mark in enumerate(marks_by_counting(width, 4 * width + 2)):
                with self.subTest(width=width, number=number):
                    self.assertEqual(steps_on(number, mark, width), 0)

    def test_the_mark_just_behind_is_all_but_a_round_away(self):
        for width in WIDTHS:
            with self.subTest(width=width):
                self.assertEqual(steps_on(2 * width, 2 * width - 1, width), 2 * width - 1)
                self.assertEqual(steps_on(2 * width + 1, 0, width), 2 * width - 1)

    def test_every_mark_against_walking(self):
        for width in WIDTHS:
            a_round = 2 * width
            marks = marks_by_counting(width, 2 * a_round + 3)
            numbers = (0, 1, width - 1, width, a_round - 2, a_round - 1, a_round, a_round + 1,
                       2 * a_round - 1, 2 * a_round, 2 * a_round + 1)
            for number in numbers:
                with self.subTest(width=width, number=number):
                    for mark in range(a_round):
                        walked = steps_by_walking(marks[number], mark, width)
                        self.assertEqual(steps_on(number, mark, width), walked, mark)

    def test_a_number_of_a_hundred_figures(self):
        # The mark of this number is 0 with the width 100, and 4 with the width 3.
        for mark in range(200):
            with self.subTest(mark=mark):
                self.assertEqual(steps_on(HUNDRED_FIGURES, mark, 100), mark)
        self.assertEqual([steps_on(HUNDRED_FIGURES, mark, 3) for mark in range(6)], [2, 3, 4, 5, 0, 1])
        self.assertEqual([steps_on(HUNDRED_FIGURES + 1, mark, 1) for mark in (0, 1)], [1, 0])

    def test_the_steps_are_a_whole_number(self):
        for number in (0, 3, HUNDRED_FIGURES):
            with self.subTest(number=number):
                self.assertIs(type(steps_on(number, 1, 2)), int)

    def test_the_arguments_bear_their_names(self):
        self.assertEqual(steps_on(number=3, mark=1, width=2), 2)


if __name__ == "__main__":
    unittest.main()
