"""The rules 1 to 7 of a layout: each way to break one, its place, and which of two comes first."""

import unittest

from build import RUN_ROW, RUN_SHEETS, frame_cartoon, put, row_cartoon, run_cartoon
from glasssheets.layouts import judge

MOST = 4294967295


class LayoutTest(unittest.TestCase):
    """Panes 0, 1, 2 of glasses 1, 1, 2, whose blanks are 20 wide and 16 high."""

    def setUp(self):
        self.cartoon = row_cartoon([1, 1, 2])

    def assert_judged(self, sheets, row, due):
        self.assertEqual(judge(0, self.cartoon, sheets, row), [0] + due)


SHEETS = [1, 100, 50, 1, 2, 60, 40, 0]
RIGHT = [2, 30, 1, 0, 0, 3, 25, 1, 1, 1, 0, 1, 2, 0]


class RightLayouts(LayoutTest):
    def test_right(self):
        self.assert_judged(SHEETS, RIGHT, [])

    def test_panes_in_whatever_order_and_turned(self):
        self.assert_judged(SHEETS, [2, 30, 1, 1, 1, 3, 25, 0, 1, 0, 0, 1, 2, 0], [])

    def test_pieces_as_narrow_as_the_blanks(self):
        self.assert_judged([1, 36, 20, 1, 2, 20, 16, 0], [2, 20, 3, 16, 1, 0, 0, 0, 1, 1, 1, 1, 2, 0], [])

    def test_sheets_left_over(self):
        self.assert_judged([1, 9, 9, 0] + SHEETS + [7, 1, 1, 0], [0] + RIGHT + [0], [])
        self.assert_judged([1, 9, 9, 0] + SHEETS, [3, 8, 0, 2, 1, 0, 0] + RIGHT, [])

    def test_least_and_greatest_cut(self):
        self.assert_judged(SHEETS, [2, 1, 0] + [2, 30, 1, 0, 0, 3, 25, 1, 1, 1, 0] + [3, 39, 1, 2, 0, 0], [])
        self.assert_judged(SHEETS, [2, 99, 2, 30, 1, 0, 0, 1, 1, 0, 0] + [1, 2, 0], [])


class Rule1(LayoutTest):
    def test_first_number_above_3(self):
        for number in (4, 5, MOST):
            self.assert_judged(SHEETS, [number], [1, 0])
            self.assert_judged(SHEETS, [2, 30, number], [1, 2])
            self.assert_judged(SHEETS, [3, 30, 0, number], [1, 3])
            self.assert_judged(SHEETS, RIGHT[:11] + [number, 2, 0], [1, 11])

    def test_turned_above_1(self):
        for number in (2, 3, MOST):
            self.assert_judged(SHEETS, [1, 0, number], [1, 2])
            self.assert_judged(SHEETS, RIGHT[:13] + [number], [1, 13])

    def test_turned_above_1_and_the_pane_wrong_as_well(self):
        self.assert_judged(SHEETS, [1, 3, 2], [1, 2])
        self.assert_judged(SHEETS, [1, 2, 2], [1, 2])
        self.assert_judged(SHEETS, [2, 30, 1, 0, 0, 1, 0, 2], [1, 7])
        self.assert_judged([1, 5, 5, 0], [1, 0, 2], [1, 2])

    def test_row_ends_at_each_number_wanted(self):
        for many in range(len(RIGHT)):
            self.assert_judged(SHEETS, RIGHT[:many], [1, many])

    def test_row_ends_at_each_kind_of_number(self):
        for row in ([], [1], [1, 0], [2], [3], [2, 30], [3, 25], [2, 30, 0], [3, 25, 0], [0], [2, 30, 2], [3, 9, 0, 1]):
            self.assert_judged(SHEETS, row, [1, len(row)])

    def test_row_ends_before_turned_and_the_pane_is_wrong(self):
        self.assert_judged(SHEETS, [1, 3], [1, 2])
        self.assert_judged(SHEETS, [1, 2], [1, 2])
        self.assert_judged([1, 5, 5, 0], [1, 0], [1, 2])

    def test_row_goes_on(self):
        for behind in ([0], [4], [1, 9, 9], [MOST], [0] * 50):
            self.assert_judged(SHEETS, RIGHT + behind, [1, 14])

    def test_row_goes_on_and_a_pane_is_not_in_it(self):
        self.assert_judged(SHEETS, [0, 0, 0], [1, 2])
        self.assert_judged(SHEETS, [0, 0, 1, 0, 0], [1, 2])

    def test_the_document_s_run(self):
        for many in range(18):
            self.assertEqual(judge(1, run_cartoon(), RUN_SHEETS, RUN_ROW[:many]), [0, 1, many])
        self.assertEqual(judge(1, run_cartoon(), RUN_SHEETS, RUN_ROW + [0]), [0, 1, 18])


class NoSheets(LayoutTest):
    def test_empty_row(self):
        self.assert_judged([], [], [7, 0])

    def test_row(self):
        for row in ([0], [1, 0, 0], [4], [2, 0]):
            self.assert_judged([], row, [1, 0])


class Rule2(LayoutTest):
    def test_upright_cut(self):
        for cut in (0, 100, 101, MOST):
            self.assert_judged(SHEETS, [2, cut, 0, 0], [2, 1])

    def test_level_cut(self):
        for cut in (0, 50, 51, 99, MOST):
            self.assert_judged(SHEETS, [3, cut, 0, 0], [2, 1])

    def test_cut_as_long_as_the_other_side(self):
        self.assert_judged(SHEETS, [2, 50, 0, 0, 0], [7, 5])
        self.assert_judged([1, 50, 100, 0], [3, 50, 0, 0], [7, 4])
        self.assert_judged([1, 50, 100, 0], [2, 50, 0, 0], [2, 1])

    def test_cuts_of_pieces(self):
        self.assert_judged(SHEETS, [2, 30, 2, 30, 0, 0, 0], [2, 3])
        self.assert_judged(SHEETS, [2, 30, 2, 29, 0, 0, 2, 70, 0, 0], [2, 7])
        self.assert_judged(SHEETS, [3, 30, 3, 30, 0, 0, 0], [2, 3])
        self.assert_judged(SHEETS, [3, 30, 3, 29, 0, 0, 3, 20, 0, 0], [2, 7])
        self.assert_judged(SHEETS, [2, 30, 3, 50, 0, 0, 0], [2, 3])
        self.assert_judged(SHEETS, [3, 30, 2, 100, 0, 0, 0], [2, 3])
        self.assert_judged(SHEETS, [2, 60, 3, 50, 0, 0, 0], [2, 3])
        self.assert_judged(SHEETS, [2, 30, 3, 49, 0, 0, 3, 50, 0, 0], [2, 7])
        self.assert_judged(SHEETS, [3, 30, 2, 99, 0, 0, 2, 100, 0, 0], [2, 7])

    def test_pieces_one_wide_or_one_high_have_no_cut(self):
        self.assert_judged([1, 1, 9, 0], [2, 1, 0, 0], [2, 1])
        self.assert_judged([1, 9, 1, 0], [3, 1, 0, 0], [2, 1])

    def test_before_what_its_parts_break(self):
        for row in ([2, 0], [2, 0, 4], [3, 50, 1, 9, 9], [2, 100, 2, 0]):
            self.assert_judged(SHEETS, row, [2, 1])


class Rule3(LayoutTest):
    def test_no_such_pane(self):
        for pane in (3, 4, MOST):
            self.assert_judged(SHEETS, [1, pane, 0, 0], [3, 1])
        self.assert_judged(SHEETS, RIGHT[:12] + [3, 0], [3, 12])

    def test_pane_that_has_been_before(self):
        self.assert_judged(SHEETS, [2, 30, 1, 0, 0, 1, 0, 0, 0], [3, 6])
        self.assert_judged(SHEETS + [1, 50, 50, 0], RIGHT + [1, 0, 0], [3, 15])
        self.assert_judged(SHEETS + [2, 50, 50, 0], RIGHT + [1, 2, 0], [3, 15])


class Rule4(LayoutTest):
    def test_other_glass(self):
        self.assert_judged(SHEETS, [1, 2, 0, 0], [4, 1])
        self.assert_judged(SHEETS, [0, 1, 0, 0], [4, 2])
        self.assert_judged(SHEETS, [0, 2, 30, 1, 2, 0, 1, 1, 0], [4, 7])

    def test_glass_of_two_bytes(self):
        self.cartoon = row_cartoon([258, 2, 65535])
        sheets = [258, 20, 16, 0, 2, 20, 16, 0, 65535, 20, 16, 0]
        self.assert_judged(sheets, [1, 0, 0, 1, 1, 0, 1, 2, 0], [])
        self.assert_judged(sheets, [1, 1, 0, 1, 0, 0, 1, 2, 0], [4, 1])


    def test_painting_is_no_glass(self):
        cartoon = frame_cartoon(glass=3)
        for painting in (1, 255, 256, 65535):
            painted = put(cartoon, len(cartoon) - 2, 2, painting)
            self.assertEqual(judge(0, painted, [3, 20, 16, 0], [1, 0, 0]), [0])


class Rule5(LayoutTest):
    def test_turned_on_a_sheet_that_does_not_turn(self):
        self.assert_judged(SHEETS, RIGHT[:13] + [1], [5, 13])
        self.assert_judged([1, 100, 50, 0, 2, 60, 40, 1], RIGHT, [5, 9])


class Rule6(LayoutTest):
    def test_piece_too_narrow_or_too_low(self):
        for width, height, turned in ((19, 16, 0), (20, 15, 0), (15, 20, 1), (16, 19, 1), (16, 20, 0), (20, 16, 1)):
            self.assert_judged([1, width, height, 1], [1, 0, turned], [6, 1])
        for width, height, turned in ((20, 16, 0), (16, 20, 1)):
            self.assert_judged([1, width, height, 1], [1, 0, turned], [7, 3])

    def test_pieces_of_cuts(self):
        self.assert_judged(SHEETS, [2, 19, 1, 0, 0], [6, 3])
        self.assert_judged(SHEETS, [2, 81, 0, 1, 0, 0], [6, 4])
        self.assert_judged(SHEETS, [3, 15, 1, 0, 0], [6, 3])
        self.assert_judged(SHEETS, [3, 35, 0, 1, 0, 0], [6, 4])
        self.assert_judged(SHEETS, [2, 80, 0, 3, 34, 0, 1, 0, 0, 0], [7, 10])

    def test_margin_on_both_sides(self):
        cartoon = frame_cartoon()
        for margin in (0, 1, 7, 65535):
            width, height = 20 + 2 * margin, 16 + 2 * margin
            self.assertEqual(judge(margin, cartoon, [3, width, height, 0], [1, 0, 0]), [0])
            self.assertEqual(judge(margin, cartoon, [3, width - 1, height, 0], [1, 0, 0]), [0, 6, 1])
            self.assertEqual(judge(margin, cartoon, [3, width, height - 1, 0], [1, 0, 0]), [0, 6, 1])
            self.assertEqual(judge(margin, cartoon, [3, height, width, 1], [1, 0, 1]), [0])
            self.assertEqual(judge(margin, cartoon, [3, height, width, 1], [1, 0, 0]), [0, 6, 1])


class Rule7(LayoutTest):
    def test_pane_not_in_the_row(self):
        self.assert_judged(SHEETS, [0, 0], [7, 2])
        self.assert_judged(SHEETS, RIGHT[:11] + [0], [7, 12])
        self.assert_judged(SHEETS, [1, 1, 0, 1, 2, 0], [7, 6])
        self.assert_judged(SHEETS, [1, 0, 0, 1, 2, 0], [7, 6])


class OrderOfRules(LayoutTest):
    """On a sheet of glass 1, 5 by 5, that doesn't turn; pane 2 is of glass 2, no pane fits."""

    def test_of_one_node(self):
        small = [1, 5, 5, 0]
        self.assert_judged(small, [1, 3, 1], [3, 1])
        self.assert_judged(small, [1, 3, 0], [3, 1])
        self.assert_judged(small, [1, 2, 1], [4, 1])
        self.assert_judged(small, [1, 2, 0], [4, 1])
        self.assert_judged(small, [1, 0, 1], [5, 2])
        self.assert_judged(small, [1, 0, 0], [6, 1])

    def test_pane_before_and_of_other_glass(self):
        sheets = [2, 50, 50, 0, 1, 5, 5, 0]
        self.assert_judged(sheets, [1, 2, 0, 1, 2, 1], [3, 4])
        self.assert_judged(sheets, [1, 2, 0, 1, 2, 2], [1, 5])

    def test_of_two_nodes_the_one_read_first(self):
        wrong = {1: [4], 2: [2, 0], 3: [1, 9, 0], 4: [1, 2, 0], 6: [3, 9, 1, 0, 0]}
        places = {1: 0, 2: 1, 3: 1, 4: 1, 6: 3}
        for first in wrong:
            for second in wrong:
                row = [2, 30] + wrong[first] + wrong[second]
                self.assert_judged(SHEETS, row, [first, 2 + places[first]])
                row = [2, 30, 0] + wrong[second] + wrong[first]
                self.assert_judged(SHEETS, row, [second, 3 + places[second]])

    def test_of_two_sheets_the_first(self):
        self.assert_judged(SHEETS, [1, 2, 0, 4], [4, 1])
        self.assert_judged(SHEETS, [0, 1, 2, 1, 0], [5, 3])

    def test_later_rules_before_the_row_s_end(self):
        self.assert_judged(SHEETS, [1, 2, 0], [4, 1])
        self.assert_judged(SHEETS, [3, 9, 1, 0, 0], [6, 3])


if __name__ == "__main__":
    unittest.main()
