"""The document's words once more, as plainly as may be and in other ways than the program's, to compare with it.

Panes are told apart by cutting the frame into upright strips, not by walking outlines; layouts are read by calls
within calls, not by a loop. Slow, and for small inputs only.
"""

from fractions import Fraction


def number_at(data, place, length):
    return int.from_bytes(bytes(data[place:place + length]), "little")


def judge_bytes(data):
    """(rule, place, None), or (0, 0, panes), a pane being (glass, width, height)."""
    if len(data) < 20:
        return 1, len(data), None
    if bytes(data[:4]) != b"GLA1":
        return 1, 0, None
    width, height = number_at(data, 4, 4), number_at(data, 8, 4)
    many_points, many_lines, many_marks = [number_at(data, place, 2) for place in (12, 14, 16)]
    for right, place in (
        (16 <= width <= 1048575, 4), (16 <= height <= 1048575, 8), (4 <= many_points <= 4096, 12),
        (4 <= many_lines <= 8192, 14), (1 <= many_marks <= 2048, 16), (data[18] == data[19] == 0, 18),
    ):
        if not right:
            return 2, place, None
    lines_start = 20 + 8 * many_points
    marks_start = lines_start + 4 * many_lines
    if len(data) != marks_start + 12 * many_marks:
        return 3, 20, None
    points = [(number_at(data, k, 4), number_at(data, k + 4, 4)) for k in range(20, lines_start, 8)]
    lines = [(number_at(data, k, 2), number_at(data, k + 2, 2)) for k in range(lines_start, marks_start, 4)]
    marks = [(number_at(data, k, 4), number_at(data, k + 4, 4), number_at(data, k + 8, 2))
             for k in range(marks_start, len(data), 12)]
    return judge_parts(width, height, points, lines, marks)


def judge_parts(width, height, points, lines, marks):
    lines_start = 20 + 8 * len(points)
    marks_start = lines_start + 4 * len(lines)
    end = marks_start + 12 * len(marks)
    for k, (x, y) in enumerate(points):
        if x > width or y > height or (k and (y, x) <= points[k - 1][::-1]):
            return 4, 20 + 8 * k, None
    for k, (first, second) in enumerate(lines):
        if not first < second < len(points) or (k and (first, second) <= lines[k - 1]):
            return 5, lines_start + 4 * k, None
    if not frame_is_whole(width, height, points, lines):
        return 6, 20, None
    segments = [(points[first], points[second]) for first, second in lines]
    for k, (p, q) in enumerate(segments):
        if any(r not in (p, q) and on(r, p, q) for r in points):
            return 7, lines_start + 4 * k, None
        if any(cross(segments[k], before) for before in segments[:k]):
            return 7, lines_start + 4 * k, None
    for k in range(len(points)):
        if sum(k in line for line in lines) < 2:
            return 8, 20 + 8 * k, None
    everyone = range(len(points))
    together = parted(everyone, lines)
    for k in everyone:
        if together[k] != together[0]:
            return 9, 20 + 8 * k, None
    for k in everyone:
        others = [other for other in everyone if other != k]
        without = parted(others, [line for line in lines if k not in line])
        if len(set(without[other] for other in others)) > 1:
            return 10, 20 + 8 * k, None
    for k, (x, y, glass) in enumerate(marks):
        if not (0 < x < width and 0 < y < height) or any(on((x, y), p, q) for p, q in segments):
            return 11, marks_start + 12 * k, None
        if k and (y, x) <= (marks[k - 1][1], marks[k - 1][0]):
            return 11, marks_start + 12 * k, None
    strips = Strips(segments)
    seen = []
    for k, (x, y, glass) in enumerate(marks):
        pane = strips.pane_at(x, y)
        if pane in seen:
            return 12, marks_start + 12 * k, None
        seen.append(pane)
    if len(seen) < len(set(strips.panes.values())):
        return 13, end, None
    return 0, 0, [(mark[2],) + strips.size(pane) for mark, pane in zip(marks, seen)]


def turn(p, q, r):
    return (q[0] - p[0]) * (r[1] - q[1]) - (q[1] - p[1]) * (r[0] - q[0])


def on(r, p, q):
    within = all(min(p[axis], q[axis]) <= r[axis] <= max(p[axis], q[axis]) for axis in (0, 1))
    return within and turn(p, q, r) == 0


def frame_is_whole(width, height, points, lines):
    for corner in ((0, 0), (width, 0), (0, height), (width, height)):
        if corner not in points:
            return False
    for on_edge in (lambda p: p[0] == 0, lambda p: p[0] == width, lambda p: p[1] == 0, lambda p: p[1] == height):
        edge = sorted(point for point in points if on_edge(point))
        for p, q in zip(edge, edge[1:]):
            if tuple(sorted((points.index(p), points.index(q)))) not in lines:
                return False
    return True


def cross(one, other):
    """Whether two segments have a point in common that's an end of neither."""
    (p, q), (r, s) = one, other
    way, other_way = (q[0] - p[0], q[1] - p[1]), (s[0] - r[0], s[1] - r[1])
    slant = way[0] * other_way[1] - way[1] * other_way[0]
    if slant == 0:
        if turn(p, q, r) != 0:
            return False
        ends = sorted([p, q]), sorted([r, s])
        return max(ends[0][0], ends[1][0]) < min(ends[0][1], ends[1][1])
    along = Fraction((r[0] - p[0]) * other_way[1] - (r[1] - p[1]) * other_way[0], slant)
    common = (p[0] + along * way[0], p[1] + along * way[1])
    within = all(min(a[axis], b[axis]) <= common[axis] <= max(a[axis], b[axis]) for a, b in (one, other)
                 for axis in (0, 1))
    return within and common not in (p, q, r, s)


def parted(members, pairs):
    """For each member the least one to which pairs lead from it."""
    group = {member: member for member in members}
    changed = True
    while changed:
        changed = False
        for first, second in pairs:
            least = min(group[first], group[second])
            if group[first] != least or group[second] != least:
                group[first] = group[second] = least
                changed = True
    return group


class Strips:
    """The frame cut at every point's x into strips, these by the lines into pieces; panes are pieces that hang
    together."""

    def __init__(self, segments):
        self.segments = [tuple(sorted(segment)) for segment in segments]
        self.xs = sorted(set(point[0] for segment in segments for point in segment))
        self.pieces = {}
        for k, (start, end) in enumerate(zip(self.xs, self.xs[1:])):
            through = [s for s in self.segments if s[0][0] <= start and s[1][0] >= end]
            through = sorted(through, key=lambda s: height_at(s, Fraction(start + end, 2)))
            for number, (lower, upper) in enumerate(zip(through, through[1:])):
                self.pieces[(k, number)] = (
                    (height_at(lower, start), height_at(upper, start)),
                    (height_at(lower, end), height_at(upper, end)),
                )
        pairs = [(one, other) for one in self.pieces for other in self.pieces
                 if other[0] == one[0] + 1 and self.touch(one, other)]
        self.panes = parted(self.pieces, pairs)

    def touch(self, one, other):
        x = self.xs[other[0]]
        low = max(self.pieces[one][1][0], self.pieces[other][0][0])
        high = min(self.pieces[one][1][1], self.pieces[other][0][1])
        covered = 0
        for p, q in self.segments:
            if p[0] == q[0] == x:
                covered += max(0, min(high, q[1]) - max(low, p[1]))
        return low < high and covered < high - low

    def pane_at(self, x, y):
        for (k, number), ((low, high), (low_end, high_end)) in self.pieces.items():
            start, end = self.xs[k], self.xs[k + 1]
            if start < x <= end:
                share = Fraction(x - start, end - start)
                if low + share * (low_end - low) < y < high + share * (high_end - high):
                    return self.panes[(k, number)]
        raise ValueError("a mark on a line")

    def size(self, pane):
        mine = [piece for piece in self.pieces if self.panes[piece] == pane]
        xs = [self.xs[k + side] for k, number in mine for side in (0, 1)]
        ys = [y for piece in mine for side in self.pieces[piece] for y in side]
        return int(max(xs) - min(xs)), int(max(ys) - min(ys))


def height_at(segment, x):
    (x0, y0), (x1, y1) = segment
    return y0 + Fraction((x - x0) * (y1 - y0), x1 - x0)


class Broken(Exception):
    """args: the rule and the place."""


def judge_layout(panes, margin, sheets, row):
    """[0], or [0, rule, place]."""
    blanks = [(glass, width + 2 * margin, height + 2 * margin) for glass, width, height in panes]
    numbers = list(enumerate(row))
    used = []
    try:
        for k in range(0, len(sheets), 4):
            read_node(numbers, len(row), tuple(sheets[k:k + 4]), sheets[k + 1], sheets[k + 2], blanks, used)
        if numbers:
            raise Broken(1, numbers[0][0])
        if sorted(used) != list(range(len(blanks))):
            raise Broken(7, len(row))
    except Broken as broken:
        return [0] + list(broken.args)
    return [0]


def wanted(numbers, many):
    if not numbers:
        raise Broken(1, many)
    return numbers.pop(0)


def read_node(numbers, many, sheet, width, height, blanks, used):
    place, kind = wanted(numbers, many)
    if kind > 3:
        raise Broken(1, place)
    if kind == 1:
        read_blank(wanted(numbers, many), wanted(numbers, many), sheet, width, height, blanks, used)
    if kind in (2, 3):
        place, cut = wanted(numbers, many)
        if not 0 < cut < (width if kind == 2 else height):
            raise Broken(2, place)
        if kind == 2:
            read_node(numbers, many, sheet, cut, height, blanks, used)
            read_node(numbers, many, sheet, width - cut, height, blanks, used)
        else:
            read_node(numbers, many, sheet, width, cut, blanks, used)
            read_node(numbers, many, sheet, width, height - cut, blanks, used)


def read_blank(pane_number, turned_number, sheet, width, height, blanks, used):
    (pane_place, pane), (turned_place, turned) = pane_number, turned_number
    if turned > 1:
        raise Broken(1, turned_place)
    if pane >= len(blanks) or pane in used:
        raise Broken(3, pane_place)
    used.append(pane)
    glass, wide, high = blanks[pane]
    if glass != sheet[0]:
        raise Broken(4, pane_place)
    if turned and not sheet[3]:
        raise Broken(5, turned_place)
    if turned:
        wide, high = high, wide
    if wide > width or high > height:
        raise Broken(6, pane_place)


def lay(panes, margin, sheets):
    """What's told of the layout laid by rule: [0, how many, the row], or [-3, pane] if one can't be laid."""
    blanks = [(glass, width + 2 * margin, height + 2 * margin) for glass, width, height in panes]
    stock = [sheets[k:k + 4] for k in range(0, len(sheets), 4)]
    shelves = [[] for sheet in stock]
    for pane in order(panes):
        if not lay_pane(pane, blanks[pane], stock, shelves):
            return [-3, pane]
    row = []
    for sheet, pile in zip(stock, shelves):
        row += pile_node(sheet[1], sheet[2], pile)
    return [0, len(row)] + row


def order(panes):
    """The panes' numbers in the order in which they're laid; the margin, which all have, changes nothing of it."""
    return sorted(range(len(panes)), key=lambda k: (-panes[k][2], -panes[k][1], k))


def ways(sheet, blank):
    """How the blank may lie on a sheet: turned, its width and its height there."""
    return [(0, blank[1], blank[2])] + ([(1, blank[2], blank[1])] if sheet[3] else [])


def lay_pane(pane, blank, stock, shelves):
    """A shelf is [its height, blanks], a blank on it (pane, turned, width, height)."""
    mine = [(sheet, pile) for sheet, pile in zip(stock, shelves) if sheet[0] == blank[0]]
    for sheet, pile in mine:
        for shelf in pile:
            for turned, wide, high in ways(sheet, blank):
                if high <= shelf[0] and wide <= sheet[1] - sum(other[2] for other in shelf[1]):
                    shelf[1].append((pane, turned, wide, high))
                    return True
    for sheet, pile in mine:
        for turned, wide, high in ways(sheet, blank):
            if high <= sheet[2] - sum(shelf[0] for shelf in pile) and wide <= sheet[1]:
                pile.append([high, [(pane, turned, wide, high)]])
                return True
    return False


def pile_node(width, height, pile):
    if not pile:
        return [0]
    shelf_height, laid = pile[0]
    node = shelf_node(width, shelf_height, laid)
    if shelf_height == height:
        return node
    return [3, shelf_height] + node + pile_node(width, height - shelf_height, pile[1:])


def shelf_node(width, height, laid):
    if not laid:
        return [0]
    pane, turned, wide, high = laid[0]
    node = [1, pane, turned]
    if high < height:
        node = [3, high] + node + [0]
    if wide == width:
        return node
    return [2, wide] + node + shelf_node(width - wide, height, laid[1:])


def nodes(sheets, row):
    """Of a right layout each node in the row's order: its sheet's number, its piece's corners (left, lower, right,
    upper), and its own numbers."""
    numbers = list(row)
    found = []
    for k in range(0, len(sheets), 4):
        find_nodes(numbers, k // 4, (0, 0, sheets[k + 1], sheets[k + 2]), found)
    return found


def find_nodes(numbers, sheet, corners, found):
    left, lower, right, upper = corners
    own = [numbers.pop(0)]
    own += [numbers.pop(0) for _ in range((0, 2, 1, 1)[own[0]])]
    found.append((sheet, corners, own))
    if own[0] == 2:
        find_nodes(numbers, sheet, (left, lower, left + own[1], upper), found)
        find_nodes(numbers, sheet, (left + own[1], lower, right, upper), found)
    if own[0] == 3:
        find_nodes(numbers, sheet, (left, lower, right, lower + own[1]), found)
        find_nodes(numbers, sheet, (left, lower + own[1], right, upper), found)


def cuts(sheets, row):
    """What's told of the cuts of a right layout."""
    told = []
    for sheet, (left, lower, right, upper), own in nodes(sheets, row):
        if own[0] == 2:
            told += [sheet, left + own[1], lower, left + own[1], upper]
        if own[0] == 3:
            told += [sheet, left, lower + own[1], right, lower + own[1]]
    return [0, len(told)] + told


def where(sheets, row, i):
    """What's told of where a pane lies in a right layout."""
    for sheet, corners, own in nodes(sheets, row):
        if own[:2] == [1, i]:
            return [0, sheet] + list(corners) + [own[2]]
    raise ValueError("a layout without the pane")


def left(panes, margin, sheets, row):
    """What's told of a right layout's areas; what a blank doesn't cover of its piece: beside it, and above it."""
    over = covered = 0
    for sheet, (left_x, lower, right_x, upper), own in nodes(sheets, row):
        across, up = right_x - left_x, upper - lower
        if own[0] == 0:
            over += across * up
        if own[0] == 1:
            wide, high = [length + 2 * margin for length in panes[own[1]][1:]]
            covered += wide * high
            if own[2]:
                wide, high = high, wide
            over += (across - wide) * up + wide * (up - high)
    return [0, over, covered]


def places(sheets, row):
    """Of a right layout each pane's sheet, its piece's lower left corner, and turned."""
    return {own[1]: (sheet, corners[:2], own[2]) for sheet, corners, own in nodes(sheets, row) if own[0] == 1}


def pieces(sheets, row):
    """Of a right layout the pieces that aren't cut any more, with their sheets' numbers."""
    return sorted((sheet, corners) for sheet, corners, own in nodes(sheets, row) if own[0] < 2)


def tight(width, height, widths, heights):
    """What's told of the tightest piece: each of them asked whether one that goes as well is before it."""
    if len(widths) != len(heights) or max(len(widths), len(heights)) > 64:
        return [-1]
    chosen = len(widths)
    for k in range(len(widths)):
        if widths[k] < width or heights[k] < height:
            continue
        if chosen == len(widths) or heights[k] < heights[chosen]:
            chosen = k
        elif heights[k] == heights[chosen] and widths[k] < widths[chosen]:
            chosen = k
    return [0, chosen]
