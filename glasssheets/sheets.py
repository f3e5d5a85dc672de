"""Blanks, and the sheets that they are had from."""

MOST_GLASS = 65535
MOST_LENGTH = 16777215
SHEET_NUMBERS = 4


class Blank:
    """The rectangle cut for a pane, of the pane's glass."""

    def __init__(self, glass, width, height):
        self.glass = glass
        self.width = width
        self.height = height


class Sheet:
    """A sheet of one glass; blanks may be turned by a quarter on it if turns is 1."""

    def __init__(self, glass, width, height, turns):
        self.glass = glass
        self.width = width
        self.height = height
        self.turns = turns


def blank_of(pane, margin):
    xs = [corner[0] for corner in pane.corners]
    ys = [corner[1] for corner in pane.corners]
    return Blank(pane.glass, max(xs) - min(xs) + 2 * margin, max(ys) - min(ys) + 2 * margin)


def read_sheets(numbers):
    """The sheets in a row of numbers, four for each."""
    return [read_sheet(numbers, start) for start in range(0, len(numbers), SHEET_NUMBERS)]


def read_sheet(numbers, start):
    return Sheet(numbers[start], numbers[start + 1], numbers[start + 2], numbers[start + 3])


def first_wrong_sheet(sheets):
    """The number of the first sheet that may not be, or None."""
    for k, sheet in enumerate(sheets):
        if sheet.glass > MOST_GLASS or sheet.turns > 1:
            return k
        if not is_length(sheet.width) or not is_length(sheet.height):
            return k
    return None


def is_length(number):
    return number >= 1 and number <= MOST_LENGTH
