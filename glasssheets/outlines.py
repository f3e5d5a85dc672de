"""The outlines of a drawing's panes, of a drawing that breaks none of the rules 1 to 10."""

from glasssheets.points import turn


def find_outlines(points, near):
    """For each pane its corners: with the pane to the left all the way round, from the least number on."""
    walked = {}
    outlines = []
    for first, others in enumerate(near):
        for second in others:
            # The walk begins at each point in turn, so an outline is first met at its least one.
            if (first, second) not in walked:
                outline = walk_round(points, near, first, second, walked)
                if runs_to_the_left(points, outline):
                    outlines.append(outline)
    return outlines


def walk_round(points, near, first, second, walked):
    """The points along lines, always as far to the left as may be; each step is kept in walked."""
    outline = []
    here = first
    there = second
    while (here, there) not in walked:
        walked[(here, there)] = True
        outline.append(here)
        onward = leftmost(points, near[there], here, there)
        here = there
        there = onward
    return outline


def leftmost(points, others, here, there):
    """Of the points joined with there, the one to which the way from here turns most to the left."""
    best = None
    for other in others:
        if other != here and (best is None or is_more_left(points, here, there, other, best)):
            best = other
    return best


def is_more_left(points, here, there, other, best):
    other_is_left = turn(points[here], points[there], points[other]) > 0
    best_is_left = turn(points[here], points[there], points[best]) > 0
    if other_is_left != best_is_left:
        return other_is_left
    # Both are on one side of the way, less than half a round apart: the turn between them decides.
    return turn(points[other], points[there], points[best]) > 0


def runs_to_the_left(points, outline):
    """Whether what is to the left of the outline is within it; of the frame seen from outside it is not."""
    area = 0
    for p, q in sides(points, outline):
        area = area + p[0] * q[1] - p[1] * q[0]
    return area > 0


def sides(points, outline):
    """The outline's sides, each by its two ends as it is walked."""
    corners = [points[k] for k in outline]
    return list(zip(corners, corners[1:] + corners[:1]))


def is_inside(mark, outline_sides):
    """Whether a mark that is on none of the sides lies within the outline."""
    inside = False
    for p, q in outline_sides:
        # Of a side its upper end doesn't count, so a corner at the mark's height is met once or not at all.
        if (p[1] <= mark[1]) != (q[1] <= mark[1]) and is_right_of(mark, p, q):
            inside = not inside
    return inside


def is_right_of(mark, p, q):
    """Whether the side p q, which passes the mark's height, does so to the right of the mark."""
    if q[1] > p[1]:
        return turn(p, q, mark) > 0
    return turn(p, q, mark) < 0
