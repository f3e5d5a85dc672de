"""Layouts' rows of numbers, read and judged node by node."""

from glasssheets.pieces import Piece, left_part, lower_part, right_part, upper_part

LEFT_OVER = 0
PLACED = 1
UPRIGHT_CUT = 2
LEVEL_CUT = 3

# How many numbers of its own a node has, by its first one.
NODE_NUMBERS = (1, 3, 2, 2)


class Node:
    """A node of a row: its sheet's number, its piece of that sheet, and its own numbers, without its parts'."""

    def __init__(self, sheet_number, piece, numbers):
        self.sheet_number = sheet_number
        self.piece = piece
        self.numbers = numbers


class Reading:
    """A row that was judged: broken is the rule and the place, or empty; then nodes are the row's, as they stand."""

    def __init__(self, broken, nodes):
        self.broken = broken
        self.nodes = nodes


def read_row(blanks, sheets, row):
    placed = {}
    nodes = []
    start = 0
    for k, sheet in enumerate(sheets):
        # The pieces whose nodes are still to come, the next one last.
        pieces = [Piece(0, 0, sheet.width, sheet.height)]
        while pieces:
            piece = pieces.pop()
            broken = judge_node(row, start, sheet, piece, blanks, placed)
            if broken:
                return Reading(broken, [])
            node = Node(k, piece, row[start:start + NODE_NUMBERS[row[start]]])
            nodes.append(node)
            if node.numbers[0] == PLACED:
                placed[node.numbers[1]] = True
            pieces.extend(parts_of(node))
            start = start + len(node.numbers)
    return Reading(judge_end(row, start, blanks, placed), nodes)


def judge_node(row, start, sheet, piece, blanks, placed):
    """The first rule that the node beginning at start breaks by itself and its place, or an empty list."""
    broken = judge_form(row, start)
    if broken:
        return broken
    if row[start] == PLACED:
        return judge_placed(row, start, sheet, piece, blanks, placed)
    if row[start] != LEFT_OVER:
        return judge_cut(row, start, piece)
    return []


def judge_form(row, start):
    """Rule 1: the node's numbers are there, and its first one and turned may be."""
    if start == len(row) or row[start] > LEVEL_CUT:
        return [1, start]
    if start + NODE_NUMBERS[row[start]] > len(row):
        return [1, len(row)]
    if row[start] == PLACED and row[start + 2] > 1:
        return [1, start + 2]
    return []


def judge_cut(row, start, piece):
    """Rule 2: a cut parts its piece in two."""
    length = piece.width if row[start] == UPRIGHT_CUT else piece.height
    if row[start + 1] == 0 or row[start + 1] >= length:
        return [2, start + 1]
    return []


def judge_placed(row, start, sheet, piece, blanks, placed):
    """The rules 3 to 6, of a node with a pane's blank."""
    pane = row[start + 1]
    turned = row[start + 2]
    if pane >= len(blanks) or pane in placed:
        return [3, start + 1]
    if blanks[pane].glass != sheet.glass:
        return [4, start + 1]
    if turned == 1 and sheet.turns == 0:
        return [5, start + 2]
    if not fits(blanks[pane], turned, piece):
        return [6, start + 1]
    return []


def fits(blank, turned, piece):
    if turned == 1:
        return blank.height <= piece.width and blank.width <= piece.height
    return blank.width <= piece.width and blank.height <= piece.height


def judge_end(row, end, blanks, placed):
    """What only the last node's end tells: rule 1, that no number comes behind it, and rule 7."""
    if end < len(row):
        return [1, end]
    if len(placed) < len(blanks):
        return [7, len(row)]
    return []


def parts_of(node):
    """The two pieces that a cut leaves, the one whose node comes first last; none of a node without a cut."""
    if node.numbers[0] == UPRIGHT_CUT:
        return [right_part(node.piece, node.numbers[1]), left_part(node.piece, node.numbers[1])]
    if node.numbers[0] == LEVEL_CUT:
        return [upper_part(node.piece, node.numbers[1]), lower_part(node.piece, node.numbers[1])]
    return []
