"""Whole days, each held against a day kept beside it in which all that is sent shows the number itself."""

import unittest

from flaghill.day import handed_over, states, told

DEEDS = ("tell", "come", "miss", "twice", "answer", "come back", "miss back", "twice back")

# How often each deed is drawn, in the order of DEEDS.
MOODS = {
    "even": (4, 4, 1, 1, 3, 3, 1, 1),
    "all goes well": (4, 5, 0, 0, 2, 2, 0, 0),
    "messages held up": (8, 3, 0, 1, 3, 3, 0, 1),
    "answers held up": (5, 6, 0, 0, 6, 2, 0, 0),
    "much is lost": (8, 3, 5, 0, 5, 2, 3, 0),
    "much is told twice": (3, 8, 0, 4, 2, 6, 0, 4),
    "few answers": (9, 9, 1, 1, 1, 1, 0, 0),
}
WIDTHS = (1, 2, 3, 5, 8, 20, 99, 100, 101, 130)


class Row:
    """A plain reckoned row of numbers: the same start gives the same row."""

    def __init__(self, start):
        self.number = start

    def below(self, bound):
        self.number = (self.number * 1103515245 + 12345) % 2 ** 31
        # The low figures of such a row come round again soon, so only the high ones are used.
        return (self.number >> 12) % bound


class DayBeside:
    """A day without marks: messages are numbers, and answers are how many were handed over."""

    def __init__(self, notes, width):
        self.notes = notes
        self.width = width
        self.first = 0
        self.next_one = 0
        self.has_come = set()
        self.there = ()
        self.back = ()
        self.seen = set()

    def do(self, deed):
        if deed[0] == "tell":
            return self.tell(deed[1])
        if deed[0] == "answer":
            self.back = self.back + (self.next_one,)
            return True
        word = deed[0].split()[0]
        if deed[0].endswith("back"):
            return self.do_back(word)
        return self.do_there(word)

    def tell(self, step):
        if not 0 <= step < self.width or not self.first + step < len(self.notes):
            return False
        self.there = self.there + (self.first + step,)
        return True

    def do_there(self, word):
        if not self.there:
            return False
        if word == "twice":
            self.there = self.there[:1] + self.there
            return True
        if word == "come":
            self.comes(self.there[0])
        self.there = self.there[1:]
        return True

    def do_back(self, word):
        if not self.back:
            return False
        if word == "twice":
            self.back = self.back[:1] + self.back
            return True
        if word == "come":
            self.seen.add(("first grows by the width less", self.width - (self.back[0] - self.first)))
            self.first = self.back[0]
        self.back = self.back[1:]
        return True

    def comes(self, number):
        ahead = number - self.next_one
        if ahead < 0:
            self.seen.add(("old by the width less", self.width + ahead))
        else:
            self.seen.add(("new by the width less", self.width - ahead))
        self.has_come.add(number)
        before = self.next_one
        while self.next_one in self.has_come:
            self.next_one += 1
        self.seen.add(("handed over at once", self.next_one - before))

    def state(self):
        return (self.first, self.next_one, len(self.there), len(self.back))


def drawn_deed(row, mood, width):
    at = row.below(sum(mood))
    for name, weight in zip(DEEDS, mood):
        if at < weight:
            break
        at -= weight
    if name != "tell":
        return (name,)
    # Now and then one of the steps that are refused, below nought and from the width on.
    if row.below(12) == 0:
        return (name, (-1, -width, width, width + 1, 2 * width, 7 * width + 3)[row.below(6)])
    # The earliest notes more often than the late ones, that many are handed over.
    return (name, min(row.below(width), row.below(width)))


def drawn_deeds(start, mood, width, how_many):
    row = Row(start)
    return [drawn_deed(row, mood, width) for place in range(how_many)]


def numbered(how_many):
    return [f"note {number}" for number in range(how_many)]


def alike(how_many):
    """Notes of which many are equal and many are empty."""
    row = Row(77)
    return [("", "", "a", "b")[row.below(4)] for place in range(how_many)]


def ending(width, how_many, state):
    """Deeds that empty the lines and then tell all that is owed, round for round."""
    deeds = [("come",)] * state[2] + [("come back",)] * state[3]
    a_round = [("tell", step) for step in range(width)] + [("come",)] * width + [("answer",), ("come back",)]
    rounds = how_many // width + 2
    return deeds + a_round * rounds


class WholeTest(unittest.TestCase):
    def hold_against(self, notes, width, deeds):
        """Asks one by one, for unittest is slow to tell two long lists apart."""
        beside = DayBeside(notes, width)
        answers = told(notes, width, deeds)
        behind = states(notes, width, deeds)
        self.assertEqual(len(answers), len(deeds))
        self.assertEqual(len(behind), len(deeds))
        for place, deed in enumerate(deeds):
            where = f"deed {place}, {deed!r}"
            self.assertIs(answers[place], beside.do(deed), where)
            self.assertEqual(behind[place], beside.state(), where)
            self.assertLessEqual(behind[place][0], behind[place][1], where)
            self.assertLessEqual(behind[place][1], behind[place][0] + width, where)
        self.assertTrue(handed_over(notes, width, deeds) == notes[:beside.next_one])
        return beside

    def days(self):
        for width in WIDTHS:
            for place, mood in enumerate(sorted(MOODS)):
                for start in range(3):
                    deeds = drawn_deeds(1000 * width + 10 * place + start, MOODS[mood], width, 1200)
                    yield width, mood, start, deeds

    def test_drawn_days(self):
        for width, mood, start, deeds in self.days():
            with self.subTest(width=width, mood=mood, start=start):
                self.hold_against(numbered(200), width, deeds)

    def test_drawn_days_with_equal_and_empty_notes(self):
        notes = alike(200)
        self.assertEqual(set(notes), {"", "a", "b"})
        for width, mood, start, deeds in self.days():
            if start == 0:
                with self.subTest(width=width, mood=mood):
                    self.hold_against(notes, width, deeds)

    def test_drawn_days_with_few_notes(self):
        for how_many in (0, 1, 2, 3, 7):
            for width in (1, 2, 3, 100):
                for start in range(6):
                    with self.subTest(how_many=how_many, width=width, start=start):
                        deeds = drawn_deeds(start, MOODS["even"], width, 150)
                        self.hold_against(numbered(how_many), width, deeds)

    def test_the_longest_day_and_one_beyond_it(self):
        for width in (1, 3, 100):
            for how_many, how_long in ((200, 2000), (230, 2300)):
                with self.subTest(width=width, how_many=how_many):
                    deeds = drawn_deeds(how_long, MOODS["even"], width, how_long)
                    self.hold_against(numbered(how_many), width, deeds)

    def test_the_notes_handed_over_behind_each_deed(self):
        notes = alike(40)
        for width in (1, 2, 3, 100):
            deeds = drawn_deeds(width, MOODS["even"], width, 300)
            behind = states(notes, width, deeds)
            for place in range(len(deeds)):
                with self.subTest(width=width, place=place):
                    self.assertEqual(handed_over(notes, width, deeds[:place + 1]), notes[:behind[place][1]])

    def test_a_day_s_beginning_goes_as_if_nothing_followed(self):
        notes = numbered(40)
        deeds = drawn_deeds(5, MOODS["even"], 3, 300)
        for how_long in (0, 1, 50, 299):
            with self.subTest(how_long=how_long):
                self.assertTrue(told(notes, 3, deeds[:how_long]) == told(notes, 3, deeds)[:how_long])
                self.assertTrue(states(notes, 3, deeds[:how_long]) == states(notes, 3, deeds)[:how_long])

    def test_all_notes_come_over_in_the_end(self):
        for width, mood, start, deeds in self.days():
            if start != 1:
                continue
            for notes in (numbered(200), alike(200)):
                with self.subTest(width=width, mood=mood):
                    whole = deeds + ending(width, len(notes), states(notes, width, deeds)[-1])
                    self.hold_against(notes, width, whole)
                    self.assertTrue(handed_over(notes, width, whole) == notes)
                    self.assertEqual(states(notes, width, whole)[-1], (200, 200, 0, 0))

    def test_the_drawn_days_reach_the_edges(self):
        # Were a message never so old, or an answer never so far ahead, the days above would show little.
        for width in (1, 2, 3, 5, 8):
            seen = set()
            for other_width, mood, start, deeds in self.days():
                if other_width == width:
                    seen = seen | self.hold_against(numbered(200), width, deeds).seen
            with self.subTest(width=width):
                self.assertIn(("old by the width less", 0), seen)
                self.assertIn(("new by the width less", 1), seen)
                self.assertIn(("first grows by the width less", 0), seen)
                self.assertIn(("first grows by the width less", width), seen)
                self.assertIn(("handed over at once", width), seen)


class HeldUpTest(unittest.TestCase):
    """Days in which a message is as old, or an answer as late, as the lines allow."""

    def held_up(self, width):
        """The first round told twice over, so that its second telling comes when all of it was handed over."""
        tells = [("tell", step) for step in range(width)]
        comes = [("come",)] * width
        return tells + tells + comes + comes

    def test_the_first_round_told_anew_hands_nothing_over(self):
        for width in (1, 2, 3, 99, 100, 101):
            notes = numbered(2 * width)
            deeds = self.held_up(width)
            with self.subTest(width=width):
                self.assertTrue(handed_over(notes, width, deeds) == notes[:width])
                self.assertEqual(states(notes, width, deeds)[-1], (0, width, 0, 0))

    def test_the_next_round_comes_over_behind_it(self):
        for width in (1, 2, 3, 99, 100, 101):
            notes = numbered(2 * width)
            deeds = self.held_up(width) + [("answer",), ("twice back",), ("come back",), ("come back",)]
            deeds = deeds + self.held_up(width)
            with self.subTest(width=width):
                self.assertTrue(handed_over(notes, width, deeds) == notes)
                self.assertEqual(states(notes, width, deeds)[-1], (width, 2 * width, 0, 0))

    def test_old_messages_on_the_line_while_the_answers_come_back(self):
        # The second telling is still on its way when the near hill has heard of the first one.
        for width in (1, 2, 3, 99, 100):
            notes = numbered(2 * width)
            tells = [("tell", step) for step in range(width)]
            comes = [("come",)] * width
            deeds = tells + tells + comes + [("answer",), ("come back",)] + tells + comes
            with self.subTest(width=width):
                self.assertTrue(handed_over(notes, width, deeds) == notes[:width])
                self.assertEqual(states(notes, width, deeds)[-1], (width, width, width, 0))
                self.assertTrue(handed_over(notes, width, deeds + comes) == notes)

    def test_answers_of_a_whole_round_come_late_and_in_order(self):
        for width in (1, 2, 3, 100):
            notes = numbered(2 * width)
            deeds = [("answer",)]
            for step in range(width):
                deeds = deeds + [("tell", step), ("come",), ("answer",)]
            deeds = deeds + [("come back",)] * (width + 1)
            with self.subTest(width=width):
                firsts = [state[0] for state in states(notes, width, deeds)[-width - 1:]]
                self.assertEqual(firsts, list(range(width + 1)))


if __name__ == "__main__":
    unittest.main()
