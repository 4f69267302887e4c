import unittest

from flaghill.post import Line, doubled_on, lost_on


def line_with(*things):
    line = Line()
    for thing in things:
        line.give(thing)
    return line


def all_taken(line):
    taken = []
    while not line.is_empty():
        taken.append(line.take_foremost())
    return taken


class LineTest(unittest.TestCase):
    def test_empty_at_the_beginning(self):
        self.assertTrue(Line().is_empty())
        self.assertEqual(Line().how_many(), 0)

    def test_what_is_given_stands_behind_all_others(self):
        line = line_with("a", "b", "c")
        self.assertFalse(line.is_empty())
        self.assertEqual(line.how_many(), 3)
        self.assertEqual(all_taken(line), ["a", "b", "c"])

    def test_given_while_others_leave(self):
        line = line_with("a", "b")
        self.assertEqual(line.take_foremost(), "a")
        line.give("c")
        self.assertEqual(all_taken(line), ["b", "c"])

    def test_nought_and_the_empty_text_are_on_the_line_too(self):
        line = line_with(0, "")
        self.assertFalse(line.is_empty())
        self.assertEqual(all_taken(line), [0, ""])

    def test_the_copy_stands_straight_behind_the_foremost(self):
        line = line_with("a", "b", "c")
        self.assertIs(doubled_on(line), True)
        self.assertEqual(line.how_many(), 4)
        self.assertEqual(all_taken(line), ["a", "a", "b", "c"])

    def test_the_copy_of_one_alone(self):
        line = line_with("a")
        self.assertIs(doubled_on(line), True)
        self.assertEqual(all_taken(line), ["a", "a"])

    def test_the_foremost_is_lost(self):
        line = line_with("a", "b", "c")
        self.assertIs(lost_on(line), True)
        self.assertEqual(all_taken(line), ["b", "c"])

    def test_an_empty_line_refuses_both(self):
        line = Line()
        self.assertIs(doubled_on(line), False)
        self.assertIs(lost_on(line), False)
        self.assertTrue(line.is_empty())

    def test_two_lines_are_two(self):
        one = line_with("a")
        other = Line()
        self.assertEqual((one.how_many(), other.how_many()), (1, 0))


if __name__ == "__main__":
    unittest.main()
