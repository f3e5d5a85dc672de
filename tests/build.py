"""What the tests hand in: cartoons' bytes made from points, lines and marks, and a few ready ones."""


def number_bytes(number, length):
    return list(number.to_bytes(length, "little"))


def pack(width, height, points, lines, marks):
    """A cartoon's bytes; a mark is (x, y), (x, y, glass) or (x, y, glass, painting)."""
    data = [0x47, 0x4C, 0x41, 0x31] + number_bytes(width, 4) + number_bytes(height, 4)
    for many in (points, lines, marks):
        data += number_bytes(len(many), 2)
    data += [0, 0]
    for x, y in points:
        data += number_bytes(x, 4) + number_bytes(y, 4)
    for first, second in lines:
        data += number_bytes(first, 2) + number_bytes(second, 2)
    for mark in marks:
        x, y, glass, painting = (tuple(mark) + (0, 0))[:4]
        data += number_bytes(x, 4) + number_bytes(y, 4) + number_bytes(glass, 2) + number_bytes(painting, 2)
    return data


def in_order(points):
    return sorted(points, key=lambda point: (point[1], point[0]))


def pack_places(width, height, points, segments, marks):
    """A cartoon's bytes from points and segments told by places, in whatever order; marks likewise."""
    points = in_order(points)
    numbers = {point: k for k, point in enumerate(points)}
    lines = sorted(tuple(sorted((numbers[p], numbers[q]))) for p, q in segments)
    return pack(width, height, points, lines, in_order(marks))


def put(data, place, length, number):
    """The bytes with a number put in at a place."""
    return data[:place] + number_bytes(number, length) + data[place + length:]


RUN_POINTS = [(0, 0), (30, 0), (10, 10), (0, 20), (30, 20)]
RUN_LINES = [(0, 1), (0, 2), (0, 3), (1, 2), (1, 4), (2, 3), (3, 4)]
RUN_MARKS = [(15, 2, 5), (2, 10, 6), (20, 15, 7)]
RUN_SHEETS = [7, 40, 30, 0, 5, 12, 50, 1, 6, 12, 22, 0]
RUN_ROW = [3, 22, 2, 32, 1, 2, 0, 0, 0, 3, 32, 1, 0, 1, 0, 1, 1, 0]

FRAME_POINTS = [(0, 0), (20, 0), (0, 16), (20, 16)]
FRAME_LINES = [(0, 1), (0, 2), (1, 3), (2, 3)]


def run_cartoon():
    """The cartoon of the document's run: three panes."""
    return pack(30, 20, RUN_POINTS, RUN_LINES, RUN_MARKS)


def frame_cartoon(glass=3):
    """The least cartoon there is: a frame of 20 by 16 with one pane."""
    return pack(20, 16, FRAME_POINTS, FRAME_LINES, [(10, 8, glass)])


def row_cartoon(glasses):
    """As many panes side by side as there are glasses, each 20 wide and 16 high."""
    many = len(glasses)
    top = many + 1
    points = [(20 * k, 0) for k in range(top)] + [(20 * k, 16) for k in range(top)]
    lines = [(k, k + 1) for k in range(many)] + [(top + k, top + k + 1) for k in range(many)]
    lines += [(k, top + k) for k in range(top)]
    marks = [(20 * k + 10, 8, glass) for k, glass in enumerate(glasses)]
    return pack(20 * many, 16, points, sorted(lines), marks)


def boxes_cartoon(boxes, glasses):
    """Panes side by side along the lower edge, as wide and high as the boxes tell, and behind them one pane more for
    all the rest: of glass 9, as wide and high as the frame (rest_size)."""
    width, height = rest_size(boxes)
    points = {(0, 0), (width, 0), (0, height), (width, height)}
    segments = [((0, height), (width, height))]
    marks = [(width - 8, height - 1, 9)]
    x = 0
    for (wide, high), glass in zip(boxes, glasses):
        points |= {(x, 0), (x, high), (x + wide, 0), (x + wide, high)}
        segments.append(((x, high), (x + wide, high)))
        marks.append((x + 1, 1, glass))
        x += wide
    floor = in_order(point for point in points if point[1] == 0)
    segments += zip(floor, floor[1:])
    for x, y in floor:
        wall = in_order(point for point in points if point[0] == x)
        segments += zip(wall, wall[1:])
    return pack_places(width, height, points, segments, marks)


def rest_size(boxes):
    """The width and height of the pane around the boxes, which is the frame's: higher than any box."""
    return sum(wide for wide, high in boxes) + 16, max([high for wide, high in boxes] + [12]) + 4


def grid_cartoon(columns, rows, extra):
    """columns by rows panes of 10 by 10, with so many more points in the middles of lines; all of glass 1."""
    points = [(10 * x, 10 * y) for y in range(rows + 1) for x in range(columns + 1)]
    segments = [((x, y), (x + 10, y)) for x, y in points if x < 10 * columns]
    segments += [((x, y), (x, y + 10)) for x, y in points if y < 10 * rows]
    for p, q in segments[:extra]:
        middle = ((p[0] + q[0]) // 2, (p[1] + q[1]) // 2)
        points.append(middle)
        segments.remove((p, q))
        segments += [(p, middle), (middle, q)]
    marks = [(10 * x + 3, 10 * y + 4, 1) for y in range(rows) for x in range(columns)]
    return pack_places(10 * columns, 10 * rows, points, segments, marks)
