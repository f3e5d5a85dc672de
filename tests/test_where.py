"""Where panes lie in right layouts: the sheet, the piece's corners (not the blank's), and turned."""

import unittest

from build import RUN_ROW, RUN_SHEETS, frame_cartoon, row_cartoon, run_cartoon
from glasssheets.layouts import where


class OnePane(unittest.TestCase):
    """The frame's one blank is 20 wide and 16 high, of glass 3."""

    def assert_where(self, sheets, row, due, margin=0):
        self.assertEqual(where(margin, 0, frame_cartoon(), sheets, row), [0] + due)

    def test_on_the_first_sheet_as_it_is(self):
        self.assert_where([3, 20, 16, 0], [1, 0, 0], [0, 0, 0, 20, 16, 0])
        self.assert_where([3, 20, 16, 1], [1, 0, 0], [0, 0, 0, 20, 16, 0])

    def test_on_the_first_sheet_turned(self):
        self.assert_where([3, 16, 20, 1], [1, 0, 1], [0, 0, 0, 16, 20, 1])

    def test_on_a_later_sheet(self):
        sheets = [3, 90, 90, 1, 7, 20, 16, 0, 3, 20, 16, 0, 3, 90, 90, 1]
        self.assert_where(sheets, [0, 0, 1, 0, 0, 0], [2, 0, 0, 20, 16, 0])
        self.assert_where(sheets, [0, 0, 0, 1, 0, 1], [3, 0, 0, 90, 90, 1])
        self.assert_where(sheets, [1, 0, 1, 0, 0, 0], [0, 0, 0, 90, 90, 1])
        self.assert_where(sheets, [2, 9, 0, 3, 8, 0, 0, 0, 0, 2, 30, 3, 40, 0, 1, 0, 1, 0], [3, 0, 40, 30, 90, 1])

    def test_on_the_last_of_many_sheets(self):
        sheets = [7, 5, 4, 0] * 897 + [3, 21, 17, 0]
        self.assert_where(sheets, [0] * 897 + [1, 0, 0], [897, 0, 0, 21, 17, 0])

    def test_corners_are_the_piece_s_not_the_blank_s(self):
        for width, height in ((21, 16), (20, 17), (35, 48), (16777215, 16777215)):
            self.assert_where([3, width, height, 0], [1, 0, 0], [0, 0, 0, width, height, 0])
            self.assert_where([3, height, width, 1], [1, 0, 1], [0, 0, 0, height, width, 1])
        self.assert_where([3, 90, 80, 1], [2, 50, 3, 30, 0, 1, 0, 0, 0], [0, 0, 30, 50, 80, 0])
        self.assert_where([3, 90, 80, 1], [2, 50, 3, 30, 0, 1, 0, 1, 0], [0, 0, 30, 50, 80, 1])

    def test_piece_of_cuts_that_just_fits(self):
        self.assert_where([3, 90, 80, 1], [2, 60, 0, 2, 20, 3, 16, 1, 0, 0, 0, 0], [0, 60, 0, 80, 16, 0])
        self.assert_where([3, 90, 80, 1], [2, 60, 0, 2, 16, 3, 20, 1, 0, 1, 0, 0], [0, 60, 0, 76, 20, 1])
        self.assert_where([3, 80, 46, 1], [2, 60, 0, 3, 30, 0, 1, 0, 0], [0, 60, 30, 80, 46, 0])
        self.assert_where([3, 76, 50, 1], [2, 60, 0, 3, 30, 0, 1, 0, 1], [0, 60, 30, 76, 50, 1])

    def test_margin_changes_no_piece(self):
        for margin in (0, 1, 5, 7):
            self.assert_where([3, 90, 80, 0], [2, 40, 0, 3, 50, 0, 1, 0, 0], [0, 40, 50, 90, 80, 0], margin)
        self.assertEqual(where(8, 0, frame_cartoon(), [3, 90, 80, 0], [2, 40, 0, 3, 50, 0, 1, 0, 0]), [-3, 7])


class PartsOfCuts(unittest.TestCase):
    """On a sheet of 100 by 90; the blank is 20 by 16."""

    def assert_where(self, row, corners):
        self.assertEqual(where(0, 0, frame_cartoon(), [3, 100, 90, 0], row), [0, 0] + corners + [0])

    def test_one_cut(self):
        self.assert_where([2, 40, 1, 0, 0, 0], [0, 0, 40, 90])
        self.assert_where([2, 40, 0, 1, 0, 0], [40, 0, 100, 90])
        self.assert_where([3, 50, 1, 0, 0, 0], [0, 0, 100, 50])
        self.assert_where([3, 50, 0, 1, 0, 0], [0, 50, 100, 90])

    def test_upright_in_upright(self):
        self.assert_where([2, 60, 2, 25, 1, 0, 0, 0, 0], [0, 0, 25, 90])
        self.assert_where([2, 60, 2, 25, 0, 1, 0, 0, 0], [25, 0, 60, 90])
        self.assert_where([2, 40, 0, 2, 25, 1, 0, 0, 0], [40, 0, 65, 90])
        self.assert_where([2, 40, 0, 2, 25, 0, 1, 0, 0], [65, 0, 100, 90])

    def test_level_in_upright(self):
        self.assert_where([2, 60, 3, 25, 1, 0, 0, 0, 0], [0, 0, 60, 25])
        self.assert_where([2, 60, 3, 25, 0, 1, 0, 0, 0], [0, 25, 60, 90])
        self.assert_where([2, 40, 0, 3, 25, 1, 0, 0, 0], [40, 0, 100, 25])
        self.assert_where([2, 40, 0, 3, 25, 0, 1, 0, 0], [40, 25, 100, 90])

    def test_upright_in_level(self):
        self.assert_where([3, 60, 2, 25, 1, 0, 0, 0, 0], [0, 0, 25, 60])
        self.assert_where([3, 60, 2, 25, 0, 1, 0, 0, 0], [25, 0, 100, 60])
        self.assert_where([3, 40, 0, 2, 25, 1, 0, 0, 0], [0, 40, 25, 90])
        self.assert_where([3, 40, 0, 2, 25, 0, 1, 0, 0], [25, 40, 100, 90])

    def test_level_in_level(self):
        self.assert_where([3, 60, 3, 25, 1, 0, 0, 0, 0], [0, 0, 100, 25])
        self.assert_where([3, 60, 3, 25, 0, 1, 0, 0, 0], [0, 25, 100, 60])
        self.assert_where([3, 40, 0, 3, 25, 1, 0, 0, 0], [0, 40, 100, 65])
        self.assert_where([3, 40, 0, 3, 25, 0, 1, 0, 0], [0, 65, 100, 90])

    def test_four_within_one_another(self):
        self.assert_where([2, 30, 0, 3, 10, 0, 2, 60, 3, 70, 1, 0, 0, 0, 0], [30, 10, 90, 80])
        self.assert_where([3, 80, 2, 90, 3, 9, 0, 2, 11, 0, 1, 0, 0, 0, 0], [11, 9, 90, 80])
        self.assert_where([2, 3, 0, 2, 5, 0, 3, 7, 0, 3, 11, 0, 1, 0, 0], [8, 18, 100, 90])
        self.assert_where([3, 88, 2, 97, 3, 82, 2, 93, 1, 0, 0, 0, 0, 0, 0], [0, 0, 93, 82])


class SeveralPanes(unittest.TestCase):
    """Panes of glasses told, whose blanks are 20 wide and 16 high."""

    def assert_where(self, glasses, sheets, row, due):
        """Where each pane lies, by their numbers."""
        told = [where(0, i, row_cartoon(glasses), sheets, row) for i in range(len(glasses))]
        self.assertEqual(told, [[0] + place for place in due])

    def test_in_the_row_s_order_and_against_it(self):
        sheets = [1, 100, 20, 1]
        self.assert_where([1, 1, 1], sheets, [2, 30, 1, 0, 0, 2, 40, 1, 1, 1, 1, 2, 0],
                          [[0, 0, 0, 30, 20, 0], [0, 30, 0, 70, 20, 1], [0, 70, 0, 100, 20, 0]])
        self.assert_where([1, 1, 1], sheets, [2, 30, 1, 2, 0, 2, 40, 1, 1, 1, 1, 0, 0],
                          [[0, 70, 0, 100, 20, 0], [0, 30, 0, 70, 20, 1], [0, 0, 0, 30, 20, 0]])

    def test_behind_others_on_other_sheets(self):
        sheets = [2, 20, 16, 0, 1, 70, 50, 1, 2, 16, 20, 1]
        row = [1, 3, 0, 3, 30, 2, 45, 1, 2, 1, 0, 1, 0, 0, 1, 1, 1]
        self.assert_where([1, 2, 1, 2], sheets, row,
                          [[1, 0, 30, 70, 50, 0], [2, 0, 0, 16, 20, 1], [1, 0, 0, 45, 30, 1], [0, 0, 0, 20, 16, 0]])

    def test_a_number_that_is_also_a_cut_or_turned(self):
        # Panes 0 to 3, and cuts of 1, 2 and 3: a pane's number alone tells its node.
        sheets = [1, 86, 17, 1]
        row = [2, 1, 0, 2, 2, 0, 2, 3, 0, 3, 1, 0, 2, 20, 1, 3, 0, 2, 20, 1, 2, 0, 2, 20, 1, 1, 0, 1, 0, 0]
        self.assert_where([1, 1, 1, 1], sheets, row,
                          [[0, 66, 1, 86, 17, 0], [0, 46, 1, 66, 17, 0], [0, 26, 1, 46, 17, 0], [0, 6, 1, 26, 17, 0]])

    def test_the_document_s_run(self):
        told = [where(1, i, run_cartoon(), RUN_SHEETS, RUN_ROW) for i in range(4)]
        self.assertEqual(told, [[0, 1, 0, 0, 12, 32, 1], [0, 2, 0, 0, 12, 22, 0], [0, 0, 0, 0, 32, 22, 0], [-2]])


if __name__ == "__main__":
    unittest.main()
