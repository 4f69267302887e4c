"""Numbers and the marks by which flags show them."""


def mark_of(number, width):
    return number % (2 * width)


def steps_on(number, mark, width):
    # Numbers with the same mark lie whole rounds of marks apart, so the way to the
    # nearest of them is what is left of the way to any of them, a way back too.
    return (mark - number) % (2 * width)
