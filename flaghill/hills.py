"""What each hill does with what comes to it over the posts."""

from flaghill.marks import steps_on


def laid(handed, shelf, mark, note):
    handed_now = list(handed)
    shelf_now = list(shelf)
    width = len(shelf)
    steps = steps_on(len(handed), mark, width)
    if steps < width:
        shelf_now[steps] = note
    # An empty text is a note too, so None alone tells that a place is free.
    while shelf_now[0] is not None:
        handed_now.append(shelf_now.pop(0))
        shelf_now.append(None)
    return (handed_now, shelf_now)


def heard(first, mark, width):
    return first + steps_on(first, mark, width)
