"""The calls. Each gives back a list: a refusal's numbers, the first below 0, or 0 and the answer behind it."""

from glasssheets.cartoons import read_cartoon
from glasssheets.findings import areas_of, cuts_of, place_of
from glasssheets.offcuts import tightest
from glasssheets.rows import read_row
from glasssheets.sheets import SHEET_NUMBERS, blank_of, first_wrong_sheet, read_sheets
from glasssheets.shelves import lay_panes

MOST_MARGIN = 65535
MOST_BYTES = 131072
MOST_SHEETS = 1024
MOST_OFFCUTS = 64


class Order:
    """What a call is about: if refusal is empty, the panes' blanks and the sheets."""

    def __init__(self, refusal, blanks, sheets):
        self.refusal = refusal
        self.blanks = blanks
        self.sheets = sheets


class Layout:
    """A layout that a call is about: if refusal is empty, the nodes of its row, which is right."""

    def __init__(self, refusal, nodes):
        self.refusal = refusal
        self.nodes = nodes


def look(margin, cartoon, sheet_numbers):
    """The order, looked at for what all calls with a cartoon refuse, in the order in which they refuse it."""
    if margin > MOST_MARGIN:
        return Order([-1], [], [])
    if len(cartoon) > MOST_BYTES or len(sheet_numbers) > SHEET_NUMBERS * MOST_SHEETS:
        return Order([-6], [], [])
    judged = read_cartoon(cartoon)
    if judged.broken:
        return Order([-5] + judged.broken, [], [])
    stock = read_sheets(sheet_numbers)
    wrong = first_wrong_sheet(stock)
    if wrong is not None:
        return Order([-7, wrong], [], [])
    return Order([], [blank_of(pane, margin) for pane in judged.panes], stock)


def look_for_pane(margin, i, cartoon, sheet_numbers):
    """The order, looked at for what all calls with a cartoon refuse, and then for pane i."""
    order = look(margin, cartoon, sheet_numbers)
    if not order.refusal and i >= len(order.blanks):
        return Order([-2], [], [])
    return order


def look_at_row(order, row):
    """The layout that the row tells; what the order refuses comes before what the row breaks."""
    if order.refusal:
        return Layout(order.refusal, [])
    reading = read_row(order.blanks, order.sheets, row)
    if reading.broken:
        return Layout([-3, reading.broken[1]], [])
    return Layout([], reading.nodes)


def blank(margin, i, cartoon):
    """The width and the height of pane i's blank."""
    order = look_for_pane(margin, i, cartoon, [])
    if order.refusal:
        return order.refusal
    return [0, order.blanks[i].width, order.blanks[i].height]


def judge(margin, cartoon, sheets, row):
    """Nothing behind the 0 if the layout is right, else the rule that it breaks and its place."""
    order = look(margin, cartoon, sheets)
    if order.refusal:
        return order.refusal
    return [0] + read_row(order.blanks, order.sheets, row).broken


def lay(margin, cartoon, sheets):
    """How many numbers the row of the layout laid by rule has, and the row."""
    order = look(margin, cartoon, sheets)
    if order.refusal:
        return order.refusal
    laying = lay_panes(order.blanks, order.sheets)
    if laying.unlaid is not None:
        return [-3, laying.unlaid]
    return [0, len(laying.row)] + laying.row


def cuts(margin, cartoon, sheets, row):
    """How many numbers tell the cuts of a right layout, and they: five for each cut."""
    layout = look_at_row(look(margin, cartoon, sheets), row)
    if layout.refusal:
        return layout.refusal
    numbers = cuts_of(layout.nodes)
    return [0, len(numbers)] + numbers


def where(margin, i, cartoon, sheets, row):
    """Where pane i lies in a right layout: six numbers."""
    layout = look_at_row(look_for_pane(margin, i, cartoon, sheets), row)
    if layout.refusal:
        return layout.refusal
    return [0] + place_of(layout.nodes, i)


def left(margin, cartoon, sheets, row):
    """Of a right layout what is left over of all sheets, and what all blanks cover."""
    order = look(margin, cartoon, sheets)
    layout = look_at_row(order, row)
    if layout.refusal:
        return layout.refusal
    return [0] + areas_of(layout.nodes, order.blanks)


def tight(width, height, widths, heights):
    """The number of the tightest piece that is at least so wide and so high, or how many there are if none is."""
    if len(widths) != len(heights) or len(widths) > MOST_OFFCUTS:
        return [-1]
    return [0, tightest(width, height, widths, heights)]
