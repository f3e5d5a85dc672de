"""The rules 4 to 11 of a cartoon, each a function that tells the least place at which it is broken, or None.

Each of them may rely on the rules before it.
"""

from glasssheets.drawings import HEAD_SIZE
from glasssheets.points import comes_behind, is_on, turn


def stray_point(drawing):
    """Rule 4: a point outside the frame, or not behind the point before it."""
    for k, point in enumerate(drawing.points):
        if point[0] > drawing.width or point[1] > drawing.height:
            return drawing.point_place(k)
        if k > 0 and not comes_behind(point, drawing.points[k - 1]):
            return drawing.point_place(k)
    return None


def stray_line(drawing):
    """Rule 5: a line whose numbers may not be, or not behind the line before it."""
    for k, line in enumerate(drawing.lines):
        if line[0] >= line[1] or line[1] >= len(drawing.points):
            return drawing.line_place(k)
        if k > 0 and line <= drawing.lines[k - 1]:
            return drawing.line_place(k)
    return None


def gap_in_frame(drawing):
    """Rule 6: a corner of the frame that is no point, or a piece of an edge that is no line."""
    for corner in ((0, 0), (drawing.width, 0), (0, drawing.height), (drawing.width, drawing.height)):
        if corner not in drawing.points:
            return HEAD_SIZE
    joined = dict([(line, True) for line in drawing.lines])
    for axis, value in ((0, 0), (0, drawing.width), (1, 0), (1, drawing.height)):
        # By rule 4 the points of one edge come one behind another along it.
        edge = [k for k, point in enumerate(drawing.points) if point[axis] == value]
        for pair in zip(edge, edge[1:]):
            if pair not in joined:
                return HEAD_SIZE
    return None


def tangled_line(drawing):
    """Rule 7: a line with a point on it that is none of its ends, or that crosses a line before it."""
    for k, line in enumerate(drawing.lines):
        if has_point_on_it(drawing.points, line) or crosses_one_before(drawing, k):
            return drawing.line_place(k)
    return None


def has_point_on_it(points, line):
    # By rule 4 what lies on a line between its ends has a number between theirs.
    for k in range(line[0] + 1, line[1]):
        if is_on(points[k], points[line[0]], points[line[1]]):
            return True
    return False


def crosses_one_before(drawing, k):
    line = drawing.lines[k]
    for other in drawing.lines[:k]:
        # By rule 4 a line that ends at or before this one's first point has nothing behind that point.
        if other[1] > line[0] and crosses(drawing.points, line, other):
            return True
    return False


def crosses(points, line, other):
    """Whether each of two lines goes from one side of the other to its other side.

    Lines that lie upon one another have points in common too, but one has an end of the other on it: either the
    earlier one, which is then broken before, or the later one, which is then broken by that point.
    """
    return parts(points, line, other) and parts(points, other, line)


def parts(points, line, other):
    """Whether the ends of the other line lie on either side of this one."""
    first = turn(points[line[0]], points[line[1]], points[other[0]])
    second = turn(points[line[0]], points[line[1]], points[other[1]])
    return (first < 0 and second > 0) or (first > 0 and second < 0)


def neighbours(drawing):
    """For each point the numbers of the points that a line joins with it."""
    near = [[] for point in drawing.points]
    for line in drawing.lines:
        near[line[0]].append(line[1])
        near[line[1]].append(line[0])
    return near


def loose_point(drawing):
    """Rule 8: a point that is the end of fewer than two lines."""
    for k, near in enumerate(neighbours(drawing)):
        if len(near) < 2:
            return drawing.point_place(k)
    return None


def reach(near, start, barred):
    """The points to which ways along lines go from start that do not go through the barred one."""
    reached = {start: True}
    waiting = [start]
    while waiting:
        point = waiting.pop()
        for other in near[point]:
            if other != barred and other not in reached:
                reached[other] = True
                waiting.append(other)
    return reached


def lone_point(drawing):
    """Rule 9: a point from which no way goes to point 0."""
    reached = reach(neighbours(drawing), 0, None)
    for k in range(len(drawing.points)):
        if k not in reached:
            return drawing.point_place(k)
    return None


def only_link(drawing):
    """Rule 10: a point without which the others do not hang together."""
    near = neighbours(drawing)
    for k in range(len(drawing.points)):
        start = 1 if k == 0 else 0
        if len(reach(near, start, k)) < len(drawing.points) - 1:
            return drawing.point_place(k)
    return None


def stray_mark(drawing):
    """Rule 11: a mark that is not within the frame, or on a line, or not behind the mark before it."""
    for k, mark in enumerate(drawing.marks):
        if not is_within_frame(drawing, mark) or is_on_a_line(drawing, mark):
            return drawing.mark_place(k)
        if k > 0 and not comes_behind(mark, drawing.marks[k - 1]):
            return drawing.mark_place(k)
    return None


def is_within_frame(drawing, mark):
    return mark[0] > 0 and mark[0] < drawing.width and mark[1] > 0 and mark[1] < drawing.height


def is_on_a_line(drawing, mark):
    for line in drawing.lines:
        if is_on(mark, drawing.points[line[0]], drawing.points[line[1]]):
            return True
    return False


# In the order of the rules' numbers, from 4 on.
FINDERS = (
    stray_point,
    stray_line,
    gap_in_frame,
    tangled_line,
    loose_point,
    lone_point,
    only_link,
    stray_mark,
)


def judge_drawing(drawing):
    """The first of the rules 4 to 11 that is broken and its place, or an empty list."""
    for rule, finder in enumerate(FINDERS, start=4):
        place = finder(drawing)
        if place is not None:
            return [rule, place]
    return []
