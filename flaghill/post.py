"""A line of flag posts between the hills, on which nothing overtakes."""


class Line:
    def __init__(self):
        self.underway = []

    def how_many(self):
        return len(self.underway)

    def is_empty(self):
        return len(self.underway) == 0

    def give(self, thing):
        self.underway.append(thing)

    def take_foremost(self):
        return self.underway.pop(0)

    def double_foremost(self):
        # At the line's end the copy would have been overtaken by all the others.
        self.underway.insert(1, self.underway[0])


def lost_on(line):
    if line.is_empty():
        return False
    line.take_foremost()
    return True


def doubled_on(line):
    if line.is_empty():
        return False
    line.double_foremost()
    return True
