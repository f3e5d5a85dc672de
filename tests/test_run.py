"""The document's run, to the number."""

import unittest

from build import RUN_ROW, RUN_SHEETS, run_cartoon
from glasssheets.layouts import blank, cuts, judge, lay, left, tight, where


class Run(unittest.TestCase):
    def test_cartoon_has_the_bytes_told(self):
        data = run_cartoon()
        self.assertEqual(data[:20], [0x47, 0x4C, 0x41, 0x31, 30, 0, 0, 0, 20, 0, 0, 0, 5, 0, 7, 0, 3, 0, 0, 0])
        self.assertEqual(data[36:44], [10, 0, 0, 0, 10, 0, 0, 0])
        self.assertEqual(data[60:64], [0, 0, 1, 0])
        self.assertEqual(data[88:100], [15, 0, 0, 0, 2, 0, 0, 0, 5, 0, 0, 0])
        self.assertEqual(len(data), 20 + 8 * 5 + 4 * 7 + 12 * 3)

    def test_blanks(self):
        data = run_cartoon()
        self.assertEqual(blank(1, 0, data), [0, 32, 12])
        self.assertEqual(blank(1, 1, data), [0, 12, 22])
        self.assertEqual(blank(1, 2, data), [0, 32, 22])

    def test_blanks_without_margin(self):
        data = run_cartoon()
        self.assertEqual([blank(0, i, data) for i in range(3)], [[0, 30, 10], [0, 10, 20], [0, 30, 20]])

    def test_layout_is_right(self):
        self.assertEqual(len(RUN_ROW), 18)
        self.assertEqual(judge(1, run_cartoon(), RUN_SHEETS, RUN_ROW), [0])

    def test_layout_stays_right_with_a_smaller_margin(self):
        self.assertEqual(judge(0, run_cartoon(), RUN_SHEETS, RUN_ROW), [0])

    def test_layout_is_not_right_with_a_greater_margin(self):
        self.assertEqual(judge(2, run_cartoon(), RUN_SHEETS, RUN_ROW), [0, 6, 5])

    def test_layout_laid_by_rule(self):
        self.assertEqual(lay(1, run_cartoon(), RUN_SHEETS),
                         [0, 18, 3, 22, 2, 32, 1, 2, 0, 0, 0, 3, 32, 1, 0, 1, 0, 1, 1, 0])

    def test_cuts(self):
        self.assertEqual(cuts(1, run_cartoon(), RUN_SHEETS, RUN_ROW),
                         [0, 15, 0, 0, 22, 40, 22, 0, 32, 0, 32, 22, 1, 0, 32, 12, 32])

    def test_where(self):
        data = run_cartoon()
        self.assertEqual(where(1, 0, data, RUN_SHEETS, RUN_ROW), [0, 1, 0, 0, 12, 32, 1])
        self.assertEqual(where(1, 1, data, RUN_SHEETS, RUN_ROW), [0, 2, 0, 0, 12, 22, 0])
        self.assertEqual(where(1, 2, data, RUN_SHEETS, RUN_ROW), [0, 0, 0, 0, 32, 22, 0])
        self.assertEqual(where(1, 3, data, RUN_SHEETS, RUN_ROW), [-2])

    def test_left(self):
        self.assertEqual(left(1, run_cartoon(), RUN_SHEETS, RUN_ROW), [0, 712, 1352])
        self.assertEqual(712 + 1352, 40 * 30 + 12 * 50 + 12 * 22)

    def test_tight_among_the_sheets(self):
        widths, heights = RUN_SHEETS[1::4], RUN_SHEETS[2::4]
        self.assertEqual((widths, heights), ([40, 12, 12], [30, 50, 22]))
        self.assertEqual(tight(32, 22, widths, heights), [0, 0])
        self.assertEqual(tight(12, 22, widths, heights), [0, 2])
        self.assertEqual(tight(32, 12, widths, heights), [0, 0])
        self.assertEqual(tight(12, 32, widths, heights), [0, 1])
        self.assertEqual(tight(32, 32, widths, heights), [0, 3])

    def test_all_from_bytes_on(self):
        data = run_cartoon()
        told = lay(1, data, RUN_SHEETS)
        row = told[2:]
        self.assertEqual(told, [0, 18] + RUN_ROW)
        self.assertEqual(judge(1, data, RUN_SHEETS, row), [0])
        self.assertEqual([where(1, i, data, RUN_SHEETS, row)[1] for i in range(3)], [1, 2, 0])
        self.assertEqual(left(1, data, RUN_SHEETS, row), [0, 712, 1352])
        self.assertEqual(cuts(1, data, RUN_SHEETS, row)[1], 15)
        areas = [width * height for zero, width, height in [blank(1, i, data) for i in range(3)]]
        self.assertEqual(areas, [384, 264, 704])

    def test_sheet_1_not_turning(self):
        sheets = RUN_SHEETS[:7] + [0] + RUN_SHEETS[8:]
        self.assertEqual(judge(1, run_cartoon(), sheets, RUN_ROW), [0, 5, 13])
        self.assertEqual(lay(1, run_cartoon(), sheets), [-3, 0])
        self.assertEqual(cuts(1, run_cartoon(), sheets, RUN_ROW), [-3, 13])
        self.assertEqual(left(1, run_cartoon(), sheets, RUN_ROW), [-3, 13])
        for i in range(3):
            self.assertEqual(where(1, i, run_cartoon(), sheets, RUN_ROW), [-3, 13])


if __name__ == "__main__":
    unittest.main()
