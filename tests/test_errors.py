import unittest

from flaghill.errors import LineError, NoWidth


class ErrorsTest(unittest.TestCase):
    def test_a_line_error_is_a_value_error(self):
        self.assertEqual(LineError.__bases__, (ValueError,))

    def test_no_width_is_a_line_error(self):
        self.assertEqual(NoWidth.__bases__, (LineError,))

    def test_each_is_raised_and_taken_by_its_name(self):
        for error in (LineError, NoWidth):
            with self.subTest(error=error.__name__):
                with self.assertRaises(error) as taken:
                    raise error("the words are free")
                self.assertIs(type(taken.exception), error)

    def test_each_is_raised_without_words(self):
        for error in (LineError, NoWidth):
            with self.subTest(error=error.__name__):
                with self.assertRaises(error):
                    raise error()

    def test_no_width_is_taken_as_what_stands_above_it(self):
        for above in (LineError, ValueError):
            with self.subTest(above=above.__name__):
                with self.assertRaises(above):
                    raise NoWidth("no width")

    def test_a_line_error_is_not_taken_as_no_width(self):
        with self.assertRaises(LineError):
            try:
                raise LineError("another refusal")
            except NoWidth:
                self.fail("a LineError was taken as a NoWidth")


if __name__ == "__main__":
    unittest.main()
