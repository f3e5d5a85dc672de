"""The calls. Each gives back a list: a refusal's numbers, the first below 0, or 0 and the answer behind it."""

from glasssheets.cartoons import read_cartoon
from glasssheets.rows import cuts_of, read_row
from glasssheets.sheets import SHEET_NUMBERS, blank_of, first_wrong_sheet, read_sheets
from glasssheets.shelves import lay_panes

MOST_MARGIN = 65535
MOST_BYTES = 131072
MOST_SHEETS = 1024


class Order:
    """What a call is about: if refusal is empty, the panes' blanks and the sheets."""

    def __init__(self, refusal, blanks, sheets):
        self.refusal = refusal
        self.blanks = blanks
        self.sheets = sheets


def look(margin, cartoon, sheet_numbers):
    """The order, looked at for what all calls refuse, in the order in which they refuse it."""
    if margin > MOST_MARGIN:
        return Order([-1], [], [])
    if len(cartoon) > MOST_BYTES or len(sheet_numbers) > SHEET_NUMBERS * MOST_SHEETS:
        return Order([-6], [], [])
    judged = read_cartoon(cartoon)
    if judged.broken:
        return Order([-5] + judged.broken, [], [])
    stock = read_sheets(sheet_numbers)
    wrong = first_wrong_sheet(stock)
    if wrong is not None:
        return Order([-7, wrong], [], [])
    return Order([], [blank_of(pane, margin) for pane in judged.panes], stock)


def blank(margin, i, cartoon):
    """The width and the height of pane i's blank."""
    order = look(margin, cartoon, [])
    if order.refusal:
        return order.refusal
    if i >= len(order.blanks):
        return [-2]
    return [0, order.blanks[i].width, order.blanks[i].height]


def judge(margin, cartoon, sheets, row):
    """Nothing behind the 0 if the layout is right, else the rule that it breaks and its place."""
    order = look(margin, cartoon, sheets)
    if order.refusal:
        return order.refusal
    return [0] + read_row(order.blanks, order.sheets, row).broken


def lay(margin, cartoon, sheets):
    """How many numbers the row of the layout laid by rule has, and the row."""
    order = look(margin, cartoon, sheets)
    if order.refusal:
        return order.refusal
    laying = lay_panes(order.blanks, order.sheets)
    if laying.unlaid is not None:
        return [-3, laying.unlaid]
    return [0, len(laying.row)] + laying.row


def cuts(margin, cartoon, sheets, row):
    """How many numbers tell the cuts of a right layout, and they: five for each cut."""
    order = look(margin, cartoon, sheets)
    if order.refusal:
        return order.refusal
    reading = read_row(order.blanks, order.sheets, row)
    if reading.broken:
        return [-3, reading.broken[1]]
    numbers = cuts_of(reading.nodes)
    return [0, len(numbers)] + numbers
