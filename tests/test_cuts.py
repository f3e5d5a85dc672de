"""The cuts of right layouts, one by one with their ends on the sheet."""

import unittest

from build import frame_cartoon
from glasssheets.layouts import cuts


class CutsTest(unittest.TestCase):
    """The frame's one blank is 20 wide and 16 high, of glass 3; sheet 0 is as large as that."""

    SHEETS = [3, 20, 16, 0, 7, 100, 50, 0]

    def assert_cuts(self, node, due):
        """The cuts of sheet 1's node; the blank lies on sheet 0."""
        self.assert_told(self.SHEETS, [1, 0, 0] + node, [(1,) + cut for cut in due])

    def assert_told(self, sheets, row, due):
        numbers = [number for cut in due for number in cut]
        self.assertEqual(cuts(0, frame_cartoon(), sheets, row), [0, 5 * len(due)] + numbers)


class OneCut(CutsTest):
    def test_none(self):
        self.assert_cuts([0], [])
        self.assert_told([3, 20, 16, 0], [1, 0, 0], [])
        self.assert_told([3, 90, 90, 1] * 3, [0, 1, 0, 1, 0], [])

    def test_upright_from_below(self):
        self.assert_cuts([2, 30, 0, 0], [(30, 0, 30, 50)])

    def test_level_from_the_left(self):
        self.assert_cuts([3, 30, 0, 0], [(0, 30, 100, 30)])

    def test_least_and_greatest(self):
        self.assert_cuts([2, 1, 0, 0], [(1, 0, 1, 50)])
        self.assert_cuts([2, 99, 0, 0], [(99, 0, 99, 50)])
        self.assert_cuts([3, 1, 0, 0], [(0, 1, 100, 1)])
        self.assert_cuts([3, 49, 0, 0], [(0, 49, 100, 49)])

    def test_on_the_first_sheet(self):
        self.assert_told([3, 50, 40, 0], [2, 30, 1, 0, 0, 0], [(0, 30, 0, 30, 40)])
        self.assert_told([3, 50, 40, 0], [2, 30, 0, 1, 0, 0], [(0, 30, 0, 30, 40)])
        self.assert_told([3, 50, 40, 0], [3, 16, 1, 0, 0, 0], [(0, 0, 16, 50, 16)])
        self.assert_told([3, 50, 40, 0], [3, 24, 0, 1, 0, 0], [(0, 0, 24, 50, 24)])

    def test_greatest_sheet(self):
        most = 16777215
        self.assert_told([3, most, most, 1], [2, most - 1, 3, most - 1, 1, 0, 1, 0, 0],
                         [(0, most - 1, 0, most - 1, most), (0, 0, most - 1, most - 1, most - 1)])


class NestedCuts(CutsTest):
    def test_upright_in_upright(self):
        self.assert_cuts([2, 30, 2, 10, 0, 0, 0], [(30, 0, 30, 50), (10, 0, 10, 50)])
        self.assert_cuts([2, 30, 0, 2, 10, 0, 0], [(30, 0, 30, 50), (40, 0, 40, 50)])

    def test_level_in_upright(self):
        self.assert_cuts([2, 30, 3, 10, 0, 0, 0], [(30, 0, 30, 50), (0, 10, 30, 10)])
        self.assert_cuts([2, 30, 0, 3, 10, 0, 0], [(30, 0, 30, 50), (30, 10, 100, 10)])

    def test_upright_in_level(self):
        self.assert_cuts([3, 20, 2, 10, 0, 0, 0], [(0, 20, 100, 20), (10, 0, 10, 20)])
        self.assert_cuts([3, 20, 0, 2, 10, 0, 0], [(0, 20, 100, 20), (10, 20, 10, 50)])

    def test_level_in_level(self):
        self.assert_cuts([3, 20, 3, 5, 0, 0, 0], [(0, 20, 100, 20), (0, 5, 100, 5)])
        self.assert_cuts([3, 20, 0, 3, 5, 0, 0], [(0, 20, 100, 20), (0, 25, 100, 25)])

    def test_both_parts_cut(self):
        self.assert_cuts([2, 30, 3, 10, 0, 0, 3, 20, 0, 0], [(30, 0, 30, 50), (0, 10, 30, 10), (30, 20, 100, 20)])
        self.assert_cuts([3, 20, 2, 10, 0, 0, 2, 60, 0, 0], [(0, 20, 100, 20), (10, 0, 10, 20), (60, 20, 60, 50)])

    def test_three_within_one_another(self):
        # To the right, above that, to the right again, below that.
        self.assert_cuts([2, 30, 0, 3, 10, 0, 2, 15, 0, 3, 5, 0, 0],
                         [(30, 0, 30, 50), (30, 10, 100, 10), (45, 10, 45, 50), (45, 15, 100, 15)])
        self.assert_cuts([2, 30, 3, 10, 2, 15, 3, 5, 0, 0, 0, 0, 0],
                         [(30, 0, 30, 50), (0, 10, 30, 10), (15, 0, 15, 10), (0, 5, 15, 5)])
        self.assert_cuts([3, 20, 0, 2, 40, 3, 7, 0, 2, 11, 0, 0, 0],
                         [(0, 20, 100, 20), (40, 20, 40, 50), (0, 27, 40, 27), (11, 27, 11, 50)])

    def test_a_cut_behind_a_blank_and_behind_what_is_left_over(self):
        self.assert_told([3, 50, 40, 1], [2, 25, 3, 16, 1, 0, 0, 3, 9, 0, 0, 3, 30, 0, 0],
                         [(0, 25, 0, 25, 40), (0, 0, 16, 25, 16), (0, 0, 25, 25, 25), (0, 25, 30, 50, 30)])
        self.assert_told([3, 50, 40, 1], [3, 20, 1, 0, 1, 2, 9, 0, 0],
                         [(0, 0, 20, 50, 20), (0, 9, 20, 9, 40)])

    def test_on_several_sheets(self):
        sheets = [7, 100, 50, 0, 3, 30, 30, 0, 7, 9, 9, 1, 7, 60, 70, 1]
        row = [2, 30, 0, 3, 10, 0, 0, 3, 20, 2, 25, 1, 0, 0, 0, 0, 0, 3, 65, 0, 2, 59, 0, 0]
        self.assert_told(sheets, row, [
            (0, 30, 0, 30, 50), (0, 30, 10, 100, 10), (1, 0, 20, 30, 20), (1, 25, 0, 25, 20), (3, 0, 65, 60, 65),
            (3, 59, 65, 59, 70),
        ])

    def test_on_the_last_of_many_sheets(self):
        sheets = [3, 20, 16, 0] + [7, 5, 4, 0] * 894
        row = [1, 0, 0] + [0] * 893 + [2, 3, 0, 0]
        self.assertEqual(len(row), 900)
        self.assert_told(sheets, row, [(894, 3, 0, 3, 4)])
        self.assertEqual(cuts(0, frame_cartoon(), sheets, row[:-1]), [-3, 899])


if __name__ == "__main__":
    unittest.main()
