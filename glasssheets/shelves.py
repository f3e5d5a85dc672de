"""Panes laid out by rule: their blanks stand side by side on shelves, that lie one upon another on the sheets."""

from glasssheets.rows import LEFT_OVER, LEVEL_CUT, PLACED, UPRIGHT_CUT


class Lying:
    """A way for a pane's blank to lie: turned by a quarter if turned is 1; as wide and high as it lies."""

    def __init__(self, pane, turned, width, height):
        self.pane = pane
        self.turned = turned
        self.width = width
        self.height = height


class Shelf:
    """A shelf: its height, the blanks on it from the left, and how much of the sheet's width they leave."""

    def __init__(self, height, width):
        self.height = height
        self.width_left = width
        self.laid = []

    def take(self, lying):
        self.laid.append(lying)
        self.width_left = self.width_left - lying.width


class Pile:
    """A sheet, the shelves on it from below, and how much of its height they leave."""

    def __init__(self, sheet):
        self.sheet = sheet
        self.height_left = sheet.height
        self.shelves = []

    def begin_shelf(self, lying):
        shelf = Shelf(lying.height, self.sheet.width)
        shelf.take(lying)
        self.shelves.append(shelf)
        self.height_left = self.height_left - shelf.height


class Laying:
    """How the laying ended: unlaid is the pane that couldn't be laid, or None; then row is the layout's."""

    def __init__(self, unlaid, row):
        self.unlaid = unlaid
        self.row = row


def lay_panes(blanks, sheets):
    piles = [Pile(sheet) for sheet in sheets]
    for pane in panes_in_order(blanks):
        glass = blanks[pane].glass
        if not lay_pane(pane, blanks[pane], [pile for pile in piles if pile.sheet.glass == glass]):
            return Laying(pane, [])
    row = []
    for pile in piles:
        row.extend(pile_numbers(pile))
    return Laying(None, row)


def panes_in_order(blanks):
    """The panes' numbers, the higher blanks first, of one height the wider, of these the lower number."""
    return sorted(range(len(blanks)), key=lambda pane: (-blanks[pane].height, -blanks[pane].width, pane))


def lay_pane(pane, blank, piles):
    """Whether the pane went on one of the piles, which are those of its glass."""
    return lay_on_shelf(pane, blank, piles) or lay_on_new_shelf(pane, blank, piles)


def lay_on_shelf(pane, blank, piles):
    for pile in piles:
        ways = ways_to_lie(pane, blank, pile.sheet)
        for shelf in pile.shelves:
            lying = first_that_fits(ways, shelf.width_left, shelf.height)
            if lying is not None:
                shelf.take(lying)
                return True
    return False


def lay_on_new_shelf(pane, blank, piles):
    for pile in piles:
        lying = first_that_fits(ways_to_lie(pane, blank, pile.sheet), pile.sheet.width, pile.height_left)
        if lying is not None:
            pile.begin_shelf(lying)
            return True
    return False


def ways_to_lie(pane, blank, sheet):
    """The ways in which a blank may lie on a sheet, in the order in which they are tried."""
    ways = [Lying(pane, 0, blank.width, blank.height)]
    if sheet.turns == 1:
        ways.append(Lying(pane, 1, blank.height, blank.width))
    return ways


def first_that_fits(ways, width, height):
    for lying in ways:
        if lying.width <= width and lying.height <= height:
            return lying
    return None


def pile_numbers(pile):
    """The node of a whole sheet: its shelves are cut off from below, one by one."""
    numbers = []
    height = pile.sheet.height
    for shelf in pile.shelves:
        height = height - shelf.height
        if height > 0:
            numbers.extend([LEVEL_CUT, shelf.height])
        numbers.extend(shelf_numbers(shelf, pile.sheet.width))
    if height > 0:
        numbers.append(LEFT_OVER)
    return numbers


def shelf_numbers(shelf, shelf_width):
    """The node of a shelf: its blanks are cut off from the left, one by one."""
    numbers = []
    width = shelf_width
    for lying in shelf.laid:
        width = width - lying.width
        if width > 0:
            numbers.extend([UPRIGHT_CUT, lying.width])
        numbers.extend(lying_numbers(lying, shelf.height))
    if width > 0:
        numbers.append(LEFT_OVER)
    return numbers


def lying_numbers(lying, shelf_height):
    placed = [PLACED, lying.pane, lying.turned]
    if lying.height < shelf_height:
        return [LEVEL_CUT, lying.height] + placed + [LEFT_OVER]
    return placed
