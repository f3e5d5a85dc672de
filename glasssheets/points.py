"""Points (x, y), the turn that three of them make, and points on lines."""


def turn(p, q, r):
    """Above 0 if the way p q r turns to the left, below 0 to the right, 0 if the three are in a row."""
    return (q[0] - p[0]) * (r[1] - q[1]) - (q[1] - p[1]) * (r[0] - q[0])


def is_between(value, one, other):
    """Whether value is one of the two or lies between them, whichever of the two is the greater."""
    return min(one, other) <= value and value <= max(one, other)


def is_on(r, p, q):
    """Whether r is on the line p q, its ends among it."""
    # The box is asked first: it is the cheaper question, and most points lie outside it.
    return is_between(r[1], p[1], q[1]) and is_between(r[0], p[0], q[0]) and turn(p, q, r) == 0


def comes_behind(point, last):
    """Whether point comes behind last: by y, of one y by x."""
    return point[1] > last[1] or (point[1] == last[1] and point[0] > last[0])
