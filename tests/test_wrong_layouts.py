"""What cuts, where and left refuse of layouts that aren't right: -3 and the place, for each of the rules 1 to 7; but
where refuses a pane that isn't there before it."""

import unittest

from build import RUN_ROW, RUN_SHEETS, frame_cartoon, row_cartoon, run_cartoon
from glasssheets.layouts import cuts, left, where

MOST = 4294967295


class WrongLayouts(unittest.TestCase):
    """Panes 0, 1, 2 of glasses 1, 1, 2, whose blanks are 20 wide and 16 high."""

    CARTOON = row_cartoon([1, 1, 2])
    SHEETS = [1, 100, 50, 1, 2, 60, 40, 0]
    RIGHT = [2, 30, 1, 0, 0, 3, 25, 1, 1, 1, 0, 1, 2, 0]

    def assert_refused(self, row, place):
        self.assert_all_refuse(0, self.CARTOON, 3, self.SHEETS, row, place)

    def assert_all_refuse(self, margin, cartoon, panes, sheets, row, place):
        due = [-3, place]
        self.assertEqual(cuts(margin, cartoon, sheets, row), due)
        self.assertEqual(left(margin, cartoon, sheets, row), due)
        # Also of a pane that the row has right before the place.
        for i in range(panes):
            self.assertEqual(where(margin, i, cartoon, sheets, row), due)
        for i in (panes, panes + 1, MOST):
            self.assertEqual(where(margin, i, cartoon, sheets, row), [-2])

    def test_right(self):
        handed = (self.CARTOON, self.SHEETS, self.RIGHT)
        self.assertEqual(cuts(0, *handed), [0, 10, 0, 30, 0, 30, 50, 0, 30, 25, 100, 25])
        self.assertEqual(left(0, *handed), [0, 5000 + 2400 - 960, 960])
        self.assertEqual([where(0, i, *handed) for i in range(3)],
                         [[0, 0, 0, 0, 30, 50, 0], [0, 0, 30, 0, 100, 25, 1], [0, 1, 0, 0, 60, 40, 0]])
        for i in (3, 4, MOST):
            self.assertEqual(where(0, i, *handed), [-2])

    def test_rule_1(self):
        for number in (4, MOST):
            self.assert_refused([number] + self.RIGHT[1:], 0)
            self.assert_refused(self.RIGHT[:2] + [number] + self.RIGHT[3:], 2)
            self.assert_refused(self.RIGHT[:13] + [number], 13)
        for turned in (2, MOST):
            self.assert_refused(self.RIGHT[:4] + [turned] + self.RIGHT[5:], 4)
        for many in range(len(self.RIGHT)):
            self.assert_refused(self.RIGHT[:many], many)
        self.assert_refused(self.RIGHT + [0], 14)
        self.assert_refused(self.RIGHT + [2, 0], 14)

    def test_rule_2(self):
        for cut in (0, 100, MOST):
            self.assert_refused([2, cut] + self.RIGHT[2:], 1)
        for cut in (0, 50, MOST):
            self.assert_refused(self.RIGHT[:6] + [cut] + self.RIGHT[7:], 6)

    def test_rule_3(self):
        for pane in (0, 3, MOST):
            self.assert_refused(self.RIGHT[:8] + [pane] + self.RIGHT[9:], 8)

    def test_rule_4(self):
        self.assert_refused(self.RIGHT[:3] + [2] + self.RIGHT[4:], 3)
        self.assert_refused([2, 50, 1, 0, 0, 0, 1, 1, 0], 7)

    def test_rule_5(self):
        self.assert_refused(self.RIGHT[:13] + [1], 13)

    def test_rule_6(self):
        self.assert_refused([2, 19] + self.RIGHT[2:], 3)
        self.assert_refused(self.RIGHT[:6] + [19] + self.RIGHT[7:], 8)

    def test_rule_7(self):
        self.assert_refused(self.RIGHT[:11] + [0], 12)
        self.assert_refused([0, 0], 2)
        self.assert_refused([1, 1, 0, 1, 2, 0], 6)

    def test_no_sheets(self):
        self.assert_all_refuse(0, frame_cartoon(), 1, [], [], 0)
        self.assert_all_refuse(0, frame_cartoon(), 1, [], [0], 0)
        self.assert_all_refuse(0, frame_cartoon(), 1, [], [1, 0, 0], 0)

    def test_margin_too_great_by_one(self):
        self.assertEqual(left(3, frame_cartoon(), [3, 26, 22, 0], [1, 0, 0]), [0, 0, 26 * 22])
        self.assertEqual(where(3, 0, frame_cartoon(), [3, 26, 22, 0], [1, 0, 0]), [0, 0, 0, 0, 26, 22, 0])
        self.assert_all_refuse(4, frame_cartoon(), 1, [3, 26, 22, 0], [1, 0, 0], 1)

    def test_the_document_s_run(self):
        self.assert_all_refuse(2, run_cartoon(), 3, RUN_SHEETS, RUN_ROW, 5)
        for many in range(18):
            self.assert_all_refuse(1, run_cartoon(), 3, RUN_SHEETS, RUN_ROW[:many], many)


if __name__ == "__main__":
    unittest.main()
