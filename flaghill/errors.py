"""The refusals of the program."""


class LineError(ValueError):
    pass


class NoWidth(LineError):
    pass
