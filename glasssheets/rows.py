"""Layouts' rows of numbers, judged node by node."""

LEFT_OVER = 0
PLACED = 1
UPRIGHT_CUT = 2
LEVEL_CUT = 3

# How many numbers of its own a node has, by its first one.
NODE_NUMBERS = (1, 3, 2, 2)


def judge_row(blanks, sheets, row):
    """The first of the rules 1 to 7 that is broken and its place, or an empty list."""
    placed = {}
    start = 0
    for sheet in sheets:
        # The pieces whose nodes are still to come, the next one last; a piece is (width, height).
        pieces = [(sheet.width, sheet.height)]
        while pieces:
            piece = pieces.pop()
            broken = judge_node(row, start, sheet, piece, blanks, placed)
            if broken:
                return broken
            if row[start] == PLACED:
                placed[row[start + 1]] = True
            pieces.extend(parts_of(piece, row, start))
            start = start + NODE_NUMBERS[row[start]]
    if start < len(row):
        return [1, start]
    if len(placed) < len(blanks):
        return [7, len(row)]
    return []


def judge_node(row, start, sheet, piece, blanks, placed):
    """The first rule that the node beginning at start breaks by itself and its place, or an empty list."""
    broken = judge_form(row, start)
    if broken:
        return broken
    if row[start] == PLACED:
        return judge_placed(row, start, sheet, piece, blanks, placed)
    if row[start] != LEFT_OVER:
        return judge_cut(row, start, piece)
    return []


def judge_form(row, start):
    """Rule 1: the node's numbers are there, and its first one and turned may be."""
    if start == len(row) or row[start] > LEVEL_CUT:
        return [1, start]
    if start + NODE_NUMBERS[row[start]] > len(row):
        return [1, len(row)]
    if row[start] == PLACED and row[start + 2] > 1:
        return [1, start + 2]
    return []


def judge_cut(row, start, piece):
    """Rule 2: a cut parts its piece in two."""
    length = piece[0] if row[start] == UPRIGHT_CUT else piece[1]
    if row[start + 1] == 0 or row[start + 1] >= length:
        return [2, start + 1]
    return []


def judge_placed(row, start, sheet, piece, blanks, placed):
    """The rules 3 to 6, of a node with a pane's blank."""
    pane = row[start + 1]
    turned = row[start + 2]
    if pane >= len(blanks) or pane in placed:
        return [3, start + 1]
    if blanks[pane].glass != sheet.glass:
        return [4, start + 1]
    if turned == 1 and sheet.turns == 0:
        return [5, start + 2]
    if not fits(blanks[pane], turned, piece):
        return [6, start + 1]
    return []


def fits(blank, turned, piece):
    if turned == 1:
        return blank.height <= piece[0] and blank.width <= piece[1]
    return blank.width <= piece[0] and blank.height <= piece[1]


def parts_of(piece, row, start):
    """The two pieces that a cut leaves, the one whose node comes first last; none of a node without a cut."""
    if row[start] == UPRIGHT_CUT:
        cut = row[start + 1]
        return [(piece[0] - cut, piece[1]), (cut, piece[1])]
    if row[start] == LEVEL_CUT:
        cut = row[start + 1]
        return [(piece[0], piece[1] - cut), (piece[0], cut)]
    return []
