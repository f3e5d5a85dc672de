"""Cartoons, sheets and rows made by chance from a seeded source: right ones, and ones that are wrong in some way."""

from build import boxes_cartoon, grid_cartoon, in_order, pack, put, rest_size, row_cartoon, run_cartoon
from reference import Strips, cross, judge_bytes, judge_layout, on, parted


def chance_points(source, width, height):
    points = {(0, 0), (width, 0), (0, height), (width, height)}
    for _ in range(source.randrange(4)):
        points.add(source.choice([(0, source.randrange(height)), (width, source.randrange(height)),
                                  (source.randrange(width), 0), (source.randrange(width), height)]))
    for _ in range(source.randrange(6)):
        points.add((source.randrange(1, width), source.randrange(1, height)))
    return in_order(points)


def frame_lines(points, width, height):
    lines = set()
    for axis, value in ((0, 0), (0, width), (1, 0), (1, height)):
        edge = [k for k, point in enumerate(points) if point[axis] == value]
        lines |= set(zip(edge, edge[1:]))
    return lines


def chance_lines(source, points, width, height):
    """The frame's lines, and as many more as go in; then some of those are left out."""
    lines = frame_lines(points, width, height)
    more = [(k, m) for m in range(len(points)) for k in range(m) if (k, m) not in lines]
    source.shuffle(more)
    added = []
    for line in more:
        p, q = [points[k] for k in line]
        clean = not any(on(r, p, q) for r in points if r not in (p, q))
        clean = clean and not any(cross((p, q), (points[k], points[m])) for k, m in lines)
        if clean or source.randrange(300) == 0:
            lines.add(line)
            added.append(line)
    for line in source.sample(added, source.randrange(len(added) + 1)):
        kept = lines - {line}
        if source.randrange(6) == 0 or hangs_together(points, kept):
            lines = kept
    if source.randrange(40) == 0:
        lines -= {source.choice(sorted(lines))}
    return sorted(lines)


def hangs_together(points, lines):
    """Whether rules 8 to 10 hold."""
    everyone = range(len(points))
    for k in everyone:
        others = [other for other in everyone if other != k]
        if len(set(parted(others, [line for line in lines if k not in line]).values())) > 1:
            return False
    return all(sum(k in line for line in lines) >= 2 for k in everyone)


def chance_marks(source, points, lines, width, height):
    """A mark in each pane that has room for one, as far as the lines tell panes apart."""
    segments = [(points[k], points[m]) for k, m in lines]
    strips = Strips(segments)
    places = [(x, y) for x in range(1, width) for y in range(1, height)]
    source.shuffle(places)
    marks = {}
    for x, y in places:
        if any(on((x, y), p, q) for p, q in segments):
            continue
        try:
            marks.setdefault(strips.pane_at(x, y), (x, y, source.randrange(3), source.randrange(3)))
        except ValueError:
            pass
    return in_order(marks.values()) or [(5, 5, 1, 1)]


def spoil(source, width, height, points, lines, marks):
    """One thing put wrong, or at least otherwise."""
    many = source.randrange(7)
    if many == 0 and len(marks) > 1:
        marks.pop(source.randrange(len(marks)))
    if many == 1:
        marks.append((source.randrange(width + 2), source.randrange(height + 2), 1, 1))
        marks[:] = in_order(marks)
    if many == 2:
        marks.append(source.choice(marks))
        source.shuffle(marks)
    if many == 3:
        lines.append((source.randrange(len(points)), source.randrange(len(points) + 1)))
        lines.sort()
    if many == 4:
        k = source.randrange(len(points))
        points[k] = (source.randrange(width + 2), source.randrange(height + 2))
    if many == 5 and len(lines) > 4:
        lines.pop(source.randrange(len(lines)))
    if many == 6:
        points[:] = in_order(points + [(source.randrange(width + 1), source.randrange(height + 1))])


def chance_cartoon(source):
    width, height = source.randrange(16, 24), source.randrange(16, 24)
    points = chance_points(source, width, height)
    lines = chance_lines(source, points, width, height)
    marks = chance_marks(source, points, lines, width, height)
    if source.randrange(2) == 0:
        spoil(source, width, height, points, lines, marks)
    data = pack(width, height, points, lines, marks)
    if source.randrange(8) == 0:
        data = put(data, source.randrange(len(data)), 1, source.randrange(256))
    if source.randrange(40) == 0:
        data = data[:source.randrange(len(data))]
    return data


def right_cartoons(source, many):
    cartoons = [run_cartoon(), row_cartoon([0, 1, 0]), row_cartoon([2]), grid_cartoon(2, 2, 0)]
    while len(cartoons) < many:
        data = chance_cartoon(source)
        if judge_bytes(data)[0] == 0:
            cartoons.append(data)
    return cartoons


def chance_sheets(source, panes, margin):
    sheets = []
    for _ in range(source.randrange(1, 4)):
        glass = source.choice(panes)[0] if source.randrange(20) else 9
        sheets += [glass, source.randrange(20, 90), source.randrange(20, 90), source.randrange(2)]
    return sheets


def chance_row(source, panes, margin, sheets):
    """A row that is often right as far as it goes: cuts within pieces, each pane once, where it goes."""
    waiting = list(range(len(panes)))
    source.shuffle(waiting)
    row = []
    for k in range(0, len(sheets), 4):
        row += chance_node(source, panes, margin, sheets[k:k + 4], sheets[k + 1], sheets[k + 2], waiting, 0)
    if row and source.randrange(3) == 0:
        k = source.randrange(len(row))
        row[k] = source.choice([0, 1, 2, 3, 4, row[k] + 1, 4294967295])
    if row and source.randrange(6) == 0:
        row = row[:source.randrange(len(row))]
    if source.randrange(12) == 0:
        row.append(source.randrange(5))
    return row


def judged_rows(source):
    """Cartoons, their panes, margins, sheets and rows, right ones and others, and what the reference judges of them."""
    for data in right_cartoons(source, 12):
        panes = judge_bytes(data)[2]
        for _ in range(60):
            margin = source.randrange(3)
            sheets = chance_sheets(source, panes, margin)
            row = chance_row(source, panes, margin, sheets)
            yield data, panes, margin, sheets, row, judge_layout(panes, margin, sheets, row)


def chance_node(source, panes, margin, sheet, width, height, waiting, depth):
    for pane in list(waiting):
        glass, wide, high = panes[pane][0], panes[pane][1] + 2 * margin, panes[pane][2] + 2 * margin
        if glass != sheet[0]:
            continue
        for turned, (across, up) in ((0, (wide, high)), (1, (high, wide))):
            if turned <= sheet[3] and across <= width and up <= height:
                waiting.remove(pane)
                return trimmed(source, panes, margin, sheet, width, height, waiting, (across, up), [1, pane, turned])
    if depth < 3 and source.randrange(3) == 0 and min(width, height) > 1:
        kind = source.randrange(2, 4)
        cut = source.randrange(1, width if kind == 2 else height)
        nodes = [chance_node(source, panes, margin, sheet, wide, high, waiting, depth + 1)
                 for wide, high in parts(kind, cut, width, height)]
        return [kind, cut] + nodes[0] + nodes[1]
    return [0]


def trimmed(source, panes, margin, sheet, width, height, waiting, blank, node):
    """The blank's node with cuts around it, and nodes for what is left beside and above it."""
    if blank[0] < width:
        beside = chance_node(source, panes, margin, sheet, width - blank[0], height, waiting, 0)
        above = trimmed(source, panes, margin, sheet, blank[0], height, waiting, blank, node)
        return [2, blank[0]] + above + beside
    if blank[1] < height:
        above = chance_node(source, panes, margin, sheet, width, height - blank[1], waiting, 0)
        return [3, blank[1]] + node + above
    return node


def chance_boxes(source):
    """A cartoon of boxes and its panes; and sheets, not many more than the panes need, with one for the pane around the
    boxes."""
    glasses = source.randrange(1, 3)
    data, panes = box_panes(source, glasses)
    width, height = panes[-1][1:]
    sheets = [chance_sheet(source, glasses) for _ in range(source.randrange(2, 7))]
    sheets.insert(source.randrange(len(sheets) + 1), [9, width + 4, height + 4, source.randrange(2)])
    return data, panes, [number for sheet in sheets for number in sheet]


def box_panes(source, glasses):
    """A cartoon of boxes of few sizes, so that same heights and same blanks are frequent; and what its panes are
    (glass, width, height), the one around the boxes the last."""
    boxes = [(source.randrange(2, 9), source.randrange(2, 9)) for _ in range(source.randrange(1, 9))]
    marked = [source.randrange(glasses) for _ in boxes]
    panes = [(glass,) + box for glass, box in zip(marked, boxes)] + [(9,) + rest_size(boxes)]
    return boxes_cartoon(boxes, marked), panes


def chance_sheet(source, glasses):
    return [source.randrange(glasses), source.randrange(4, 24), source.randrange(4, 24), source.randrange(2)]


def cut_up(source, sheets, row):
    """A right layout's row with cuts by chance in what's left over."""
    numbers = list(row)
    cut = []
    for k in range(0, len(sheets), 4):
        cut += cut_up_node(source, numbers, sheets[k + 1], sheets[k + 2])
    return cut


def cut_up_node(source, numbers, width, height):
    kind = numbers.pop(0)
    if kind == 0:
        return chance_cuts(source, width, height, 4)
    if kind == 1:
        return [kind, numbers.pop(0), numbers.pop(0)]
    cut = numbers.pop(0)
    first, second = parts(kind, cut, width, height)
    return [kind, cut] + cut_up_node(source, numbers, *first) + cut_up_node(source, numbers, *second)


def parts(kind, cut, width, height):
    if kind == 2:
        return (cut, height), (width - cut, height)
    return (width, cut), (width, height - cut)


def chance_cuts(source, width, height, depth):
    kind = source.randrange(2, 4)
    length = width if kind == 2 else height
    if depth == 0 or length == 1 or source.randrange(3) == 0:
        return [0]
    cut = source.randrange(1, length)
    first, second = parts(kind, cut, width, height)
    return [kind, cut] + chance_cuts(source, *first, depth - 1) + chance_cuts(source, *second, depth - 1)


def chance_layout(source, panes, margin):
    """Sheets and the row of a right layout on them: cut in all ways, with blanks turned or not, in pieces that they
    fill and in pieces that they don't, and with sheets that have no pane."""
    stock = [(glass, []) for glass in sorted(set(pane[0] for pane in panes)) * 2]
    for pane, (glass, width, height) in enumerate(panes):
        source.choice([group for mine, group in stock if mine == glass]).append((pane, width, height))
    source.shuffle(stock)
    sheets, row = [], []
    for glass, group in stock:
        turns = source.randrange(2)
        node, width, height = chance_tree(source, group, margin, turns)
        sheets += [glass, width + slack(source), height + slack(source), turns]
        row += node
    return sheets, row


def chance_tree(source, group, margin, turns):
    """A node with the group's panes, and the width and height that it needs: in a larger piece it's right as well."""
    if not group and source.randrange(4):
        return [0], source.randrange(1, 9), source.randrange(1, 9)
    if len(group) == 1 and source.randrange(4):
        pane, width, height = group[0]
        turned = source.randrange(turns + 1)
        across, up = ((width, height), (height, width))[turned]
        return [1, pane, turned], across + 2 * margin + slack(source), up + 2 * margin + slack(source)
    halves = [], []
    for member in group:
        source.choice(halves).append(member)
    (first, width, height), (second, wide, high) = [chance_tree(source, half, margin, turns) for half in halves]
    if source.randrange(2):
        return [2, width] + first + second, width + wide, max(height, high)
    return [3, height] + first + second, max(width, wide), height + high


def slack(source):
    return source.choice([0, 0, 0, 1, source.randrange(9)])
