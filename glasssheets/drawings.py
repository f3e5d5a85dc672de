"""Drawings: the bytes of a cartoon read as points, lines and marks, and the rules 1 to 3 that let them be read."""

HEAD_SIZE = 20
POINT_SIZE = 8
LINE_SIZE = 4
MARK_SIZE = 12

# The letters GLA1.
SIGN = (0x47, 0x4C, 0x41, 0x31)

# Of each number of the head: its place, how many bytes it has, the least and the greatest that it may be.
HEAD_NUMBERS = (
    (4, 4, 16, 1048575),
    (8, 4, 16, 1048575),
    (12, 2, 4, 4096),
    (14, 2, 4, 8192),
    (16, 2, 1, 2048),
    (18, 2, 0, 0),
)


class Drawing:
    """Points are (x, y), lines the numbers of two points, marks (x, y, glass): a painting changes no blank."""

    def __init__(self, width, height, points, lines, marks):
        self.width = width
        self.height = height
        self.points = points
        self.lines = lines
        self.marks = marks

    def point_place(self, k):
        return HEAD_SIZE + POINT_SIZE * k

    def line_place(self, k):
        return self.point_place(len(self.points)) + LINE_SIZE * k

    def mark_place(self, k):
        return self.line_place(len(self.lines)) + MARK_SIZE * k

    def byte_count(self):
        return self.mark_place(len(self.marks))


def read_number(data, start, length):
    """The number in the bytes from start on, its lowest byte first."""
    number = 0
    for byte in reversed(data[start:start + length]):
        number = number * 256 + byte
    return number


def judge_head(data):
    """The first of the rules 1 to 3 that is broken and its place, or an empty list."""
    if len(data) < HEAD_SIZE:
        return [1, len(data)]
    if tuple(data[0:4]) != SIGN:
        return [1, 0]
    for place, length, least, greatest in HEAD_NUMBERS:
        number = read_number(data, place, length)
        if number < least or number > greatest:
            return [2, place]
    if len(data) != told_size(data):
        return [3, HEAD_SIZE]
    return []


def told_size(data):
    """How many bytes there must be, by the numbers of points, lines and marks that the head tells."""
    points = POINT_SIZE * read_number(data, 12, 2)
    lines = LINE_SIZE * read_number(data, 14, 2)
    marks = MARK_SIZE * read_number(data, 16, 2)
    return HEAD_SIZE + points + lines + marks


def read_drawing(data):
    """The drawing in bytes that break none of the rules 1 to 3."""
    lines_start = HEAD_SIZE + POINT_SIZE * read_number(data, 12, 2)
    marks_start = lines_start + LINE_SIZE * read_number(data, 14, 2)
    points = [read_pair(data, k, 4) for k in range(HEAD_SIZE, lines_start, POINT_SIZE)]
    lines = [read_pair(data, k, 2) for k in range(lines_start, marks_start, LINE_SIZE)]
    marks = [read_mark(data, k) for k in range(marks_start, len(data), MARK_SIZE)]
    return Drawing(read_number(data, 4, 4), read_number(data, 8, 4), points, lines, marks)


def read_pair(data, start, length):
    """Two numbers of so many bytes each, one behind the other."""
    return (read_number(data, start, length), read_number(data, start + length, length))


def read_mark(data, start):
    return (read_number(data, start, 4), read_number(data, start + 4, 4), read_number(data, start + 8, 2))
