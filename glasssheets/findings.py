"""What the nodes of a right layout tell: its cuts, where panes lie, and what is left over."""

from glasssheets.pieces import area_of, corners_of, level_ends, upright_ends
from glasssheets.rows import LEFT_OVER, LEVEL_CUT, PLACED, UPRIGHT_CUT


def cuts_of(nodes):
    """Five numbers for each cut among the nodes: its sheet's, its first end's x and y, its other end's."""
    numbers = []
    for node in nodes:
        if node.numbers[0] == UPRIGHT_CUT:
            numbers.extend([node.sheet_number] + upright_ends(node.piece, node.numbers[1]))
        if node.numbers[0] == LEVEL_CUT:
            numbers.extend([node.sheet_number] + level_ends(node.piece, node.numbers[1]))
    return numbers


def place_of(nodes, pane):
    """Six numbers: the pane's sheet's, its piece's lower left corner's x and y, its upper right one's, turned."""
    # By the rules 3 and 7 there is one such node.
    found = [node for node in nodes if node.numbers[:2] == [PLACED, pane]][0]
    return [found.sheet_number] + corners_of(found.piece) + [found.numbers[2]]


def areas_of(nodes, blanks):
    """What is left over of all sheets, and what all blanks cover."""
    uncut = sum([area_of(node.piece) for node in nodes if node.numbers[0] in (LEFT_OVER, PLACED)])
    covered = sum([area_of(blanks[node.numbers[1]]) for node in nodes if node.numbers[0] == PLACED])
    # By rule 6 each blank lies within its piece, so it takes all its area from there.
    return [uncut - covered, covered]
