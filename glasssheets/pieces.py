"""Pieces of a sheet, what cuts leave of them, and where on the sheet their corners and the cuts' ends lie."""


class Piece:
    """A rectangle of a sheet; x and y are its lower left corner's."""

    def __init__(self, x, y, width, height):
        self.x = x
        self.y = y
        self.width = width
        self.height = height


def left_part(piece, cut):
    return Piece(piece.x, piece.y, cut, piece.height)


def right_part(piece, cut):
    return Piece(piece.x + cut, piece.y, piece.width - cut, piece.height)


def lower_part(piece, cut):
    return Piece(piece.x, piece.y, piece.width, cut)


def upper_part(piece, cut):
    return Piece(piece.x, piece.y + cut, piece.width, piece.height - cut)


def upright_ends(piece, cut):
    """The x and y of an upright cut's lower end, and those of its upper one."""
    return [piece.x + cut, piece.y, piece.x + cut, piece.y + piece.height]


def level_ends(piece, cut):
    """The x and y of a level cut's left end, and those of its right one."""
    return [piece.x, piece.y + cut, piece.x + piece.width, piece.y + cut]


def corners_of(piece):
    """The x and y of the piece's lower left corner, and those of its upper right one."""
    return [piece.x, piece.y, piece.x + piece.width, piece.y + piece.height]


def area_of(rectangle):
    """The area of a piece or of a blank, which lying turned has the same."""
    return rectangle.width * rectangle.height
