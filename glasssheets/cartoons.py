"""Cartoons: bytes judged by all thirteen rules, and their panes."""

from glasssheets.drawings import judge_head, read_drawing
from glasssheets.outlines import find_outlines, is_inside, sides
from glasssheets.rules import judge_drawing, neighbours


class Pane:
    """A pane: the glass of its mark, and its corners as points, from the least number on."""

    def __init__(self, glass, corners):
        self.glass = glass
        self.corners = corners


class Cartoon:
    """Bytes that were judged: broken is the rule and the place, or empty; then panes are those of the marks."""

    def __init__(self, broken, panes):
        self.broken = broken
        self.panes = panes


def read_cartoon(data):
    broken = judge_head(data)
    if broken:
        return Cartoon(broken, [])
    drawing = read_drawing(data)
    broken = judge_drawing(drawing)
    if broken:
        return Cartoon(broken, [])
    return give_marks_their_panes(drawing)


def give_marks_their_panes(drawing):
    """The rules 12 and 13, of a drawing that breaks none before them."""
    outlines = find_outlines(drawing.points, neighbours(drawing))
    outlines_sides = [sides(drawing.points, outline) for outline in outlines]
    marked = {}
    panes = []
    for k, mark in enumerate(drawing.marks):
        found = pane_of(mark, outlines_sides)
        if found in marked:
            return Cartoon([12, drawing.mark_place(k)], [])
        marked[found] = True
        panes.append(Pane(mark[2], [drawing.points[corner] for corner in outlines[found]]))
    if len(marked) < len(outlines):
        return Cartoon([13, drawing.byte_count()], [])
    return Cartoon([], panes)


def pane_of(mark, outlines_sides):
    """Which of the outlines has the mark within it; one has, since the mark is within the frame and on no line."""
    for k, outline_sides in enumerate(outlines_sides):
        if is_inside(mark, outline_sides):
            return k
    return None
