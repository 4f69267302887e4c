"""A day: the deeds on the two hills and on the lines between them, done one by one."""

from flaghill.errors import LineError, NoWidth
from flaghill.hills import heard, laid
from flaghill.marks import mark_of
from flaghill.post import Line, doubled_on, lost_on


class Day:
    def __init__(self, notes, width):
        self.notes = notes
        self.width = width
        self.first = 0
        self.handed = []
        self.shelf = [None] * width
        self.there = Line()
        self.back = Line()


def begun(notes, width):
    if width < 1:
        raise NoWidth("the width is below one")
    return Day(notes, width)


def tell(day, step):
    number = day.first + step
    if step < 0 or step >= day.width or number >= len(day.notes):
        return False
    day.there.give((mark_of(number, day.width), day.notes[number]))
    return True


def come(day):
    if day.there.is_empty():
        return False
    message = day.there.take_foremost()
    behind = laid(day.handed, day.shelf, message[0], message[1])
    day.handed = behind[0]
    day.shelf = behind[1]
    return True


def answer(day):
    day.back.give(mark_of(len(day.handed), day.width))
    return True


def come_back(day):
    if day.back.is_empty():
        return False
    day.first = heard(day.first, day.back.take_foremost(), day.width)
    return True


def done(day, deed):
    # A refused deed is answered with False and not raised, for the day goes on behind it.
    name = deed[0]
    if name == "tell":
        return tell(day, deed[1])
    if name == "come":
        return come(day)
    if name == "miss":
        return lost_on(day.there)
    if name == "twice":
        return doubled_on(day.there)
    if name == "answer":
        return answer(day)
    if name == "come back":
        return come_back(day)
    if name == "miss back":
        return lost_on(day.back)
    if name == "twice back":
        return doubled_on(day.back)
    raise LineError("there is no such deed")


def state(day):
    return (day.first, len(day.handed), day.there.how_many(), day.back.how_many())


def told(notes, width, deeds):
    day = begun(notes, width)
    rows = []
    for deed in deeds:
        rows.append(done(day, deed))
    return rows


def states(notes, width, deeds):
    day = begun(notes, width)
    rows = []
    for deed in deeds:
        done(day, deed)
        rows.append(state(day))
    return rows


def handed_over(notes, width, deeds):
    day = begun(notes, width)
    for deed in deeds:
        done(day, deed)
    return day.handed
