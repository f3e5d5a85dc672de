"""What the calls refuse, at the edges, and which of two refusals comes first."""

import itertools
import unittest

from build import RUN_LINES, RUN_MARKS, RUN_POINTS, RUN_ROW, RUN_SHEETS, frame_cartoon, pack, put, run_cartoon
from glasssheets.layouts import blank, cuts, judge, lay, left, where

MOST = 4294967295


def where_first(margin, cartoon, sheets, row):
    return where(margin, 0, cartoon, sheets, row)


# The calls that refuse a layout that isn't right.
ROW_CALLS = (cuts, where_first, left)


class Margin(unittest.TestCase):
    def test_blank(self):
        self.assertEqual(blank(65535, 0, frame_cartoon()), [0, 20 + 131070, 16 + 131070])
        self.assertEqual(blank(0, 0, frame_cartoon()), [0, 20, 16])
        for margin in (65536, 131072, MOST):
            self.assertEqual(blank(margin, 0, frame_cartoon()), [-1])

    def test_judge(self):
        sheets = [3, 16777215, 16777215, 0]
        self.assertEqual(judge(65535, frame_cartoon(), sheets, [1, 0, 0]), [0])
        for margin in (65536, 131072, MOST):
            self.assertEqual(judge(margin, frame_cartoon(), sheets, [1, 0, 0]), [-1])

    def test_lay(self):
        sheets = [3, 20 + 131070, 16 + 131070, 0]
        self.assertEqual(lay(65535, frame_cartoon(), sheets), [0, 3, 1, 0, 0])
        for margin in (65536, 131072, MOST):
            self.assertEqual(lay(margin, frame_cartoon(), sheets), [-1])

    def test_cuts(self):
        sheets = [3, 21 + 131070, 16 + 131070, 0]
        row = [2, 20 + 131070, 1, 0, 0, 0]
        self.assertEqual(cuts(65535, frame_cartoon(), sheets, row), [0, 5, 0, 131090, 0, 131090, 131086])
        for margin in (65536, 131072, MOST):
            self.assertEqual(cuts(margin, frame_cartoon(), sheets, row), [-1])

    def test_where_and_left(self):
        width, height = 20 + 131070, 16 + 131070
        sheets = [3, width + 1, height, 0]
        row = [2, width, 1, 0, 0, 0]
        self.assertEqual(where(65535, 0, frame_cartoon(), sheets, row), [0, 0, 0, 0, width, height, 0])
        self.assertEqual(left(65535, frame_cartoon(), sheets, row), [0, height, width * height])
        self.assertEqual(where(0, 0, frame_cartoon(), sheets, row), [0, 0, 0, 0, width, height, 0])
        self.assertEqual(left(0, frame_cartoon(), sheets, row), [0, (width + 1) * height - 320, 320])
        for margin in (65536, 131072, MOST):
            self.assertEqual(where(margin, 0, frame_cartoon(), sheets, row), [-1])
            self.assertEqual(left(margin, frame_cartoon(), sheets, row), [-1])


class TooMuch(unittest.TestCase):
    def test_sheets(self):
        sheets = [3, 20, 16, 0] * 1024
        row = [1, 0, 0] + [0] * 897
        self.assertEqual(judge(0, frame_cartoon(), sheets[:4 * 898], row), [0])
        self.assertEqual(judge(0, frame_cartoon(), sheets, row), [0, 1, 900])
        self.assertEqual(judge(0, frame_cartoon(), sheets + [3, 20, 16, 0], row), [-6])
        self.assertEqual(judge(0, frame_cartoon(), sheets + [3, 20, 16, 0] * 26, row), [-6])

    def test_sheets_of_lay(self):
        sheets = [3, 20, 15, 0] * 1023
        good = [3, 20, 16, 0]
        self.assertEqual(lay(0, frame_cartoon(), sheets + good), [0, 1026] + [0] * 1023 + [1, 0, 0])
        self.assertEqual(lay(0, frame_cartoon(), good + sheets), [0, 1026, 1, 0, 0] + [0] * 1023)
        self.assertEqual(lay(0, frame_cartoon(), good + sheets + good), [-6])
        self.assertEqual(lay(0, frame_cartoon(), good * 1050), [-6])

    def test_sheets_of_cuts_where_and_left(self):
        sheets = [3, 20, 16, 0] * 1024
        row = [1, 0, 0] + [0] * 894 + [2, 19, 0]
        self.assertEqual(cuts(0, frame_cartoon(), sheets[:4 * 896], row[:-1] + [0, 0])[:2], [0, 5])
        for call in ROW_CALLS:
            self.assertEqual(call(0, frame_cartoon(), sheets, row), [-3, 900])
            self.assertEqual(call(0, frame_cartoon(), sheets + [3, 20, 16, 0], row), [-6])
            self.assertEqual(call(0, frame_cartoon(), sheets + [3, 20, 16, 0] * 26, row), [-6])

    def test_bytes(self):
        self.assertEqual(blank(0, 0, frame_cartoon() + [0] * (100000 - 100)), [-5, 3, 20])
        self.assertEqual(blank(0, 0, [0] * 131072), [-5, 1, 0])
        self.assertEqual(blank(0, 0, [0] * 131073), [-6])
        self.assertEqual(judge(0, [0] * 131072, [], []), [-5, 1, 0])
        self.assertEqual(judge(0, [0] * 131073, [], []), [-6])
        self.assertEqual(lay(0, frame_cartoon() + [0] * (100000 - 100), []), [-5, 3, 20])
        self.assertEqual(lay(0, [0] * 131072, []), [-5, 1, 0])
        self.assertEqual(lay(0, [0] * 131073, []), [-6])
        for call in ROW_CALLS:
            self.assertEqual(call(0, [0] * 131072, [], []), [-5, 1, 0])
            self.assertEqual(call(0, [0] * 131073, [], []), [-6])


class NoCartoon(unittest.TestCase):
    def test_empty(self):
        self.assertEqual(blank(0, 0, []), [-5, 1, 0])
        self.assertEqual(judge(0, [], [], []), [-5, 1, 0])
        self.assertEqual(lay(0, [], []), [-5, 1, 0])
        for call in ROW_CALLS:
            self.assertEqual(call(0, [], [], []), [-5, 1, 0])

    def test_rule_and_place(self):
        data = put(run_cartoon(), 18, 2, 7)
        self.assertEqual(blank(1, 0, data), [-5, 2, 18])
        self.assertEqual(judge(1, data, RUN_SHEETS, RUN_ROW), [-5, 2, 18])
        self.assertEqual(lay(1, data, RUN_SHEETS), [-5, 2, 18])
        for call in ROW_CALLS:
            self.assertEqual(call(1, data, RUN_SHEETS, RUN_ROW), [-5, 2, 18])

    def test_last_rules(self):
        twice = pack(30, 20, RUN_POINTS, RUN_LINES, RUN_MARKS + [(21, 15, 7)])
        unmarked = pack(30, 20, RUN_POINTS, RUN_LINES, RUN_MARKS[:2])
        for data, due in ((twice, [-5, 12, len(twice) - 12]), (unmarked, [-5, 13, len(unmarked)])):
            self.assertEqual(lay(1, data, RUN_SHEETS), due)
            for call in ROW_CALLS:
                self.assertEqual(call(1, data, RUN_SHEETS, RUN_ROW), due)


class WrongSheets(unittest.TestCase):
    GOOD = [3, 20, 16, 0]

    def assert_refused(self, sheets, number):
        row = [1, 0, 0] + [0] * (len(sheets) // 4 - 1)
        self.assertEqual(judge(0, frame_cartoon(), sheets, row), [-7, number])
        self.assertEqual(lay(0, frame_cartoon(), sheets), [-7, number])
        for call in ROW_CALLS:
            self.assertEqual(call(0, frame_cartoon(), sheets, row), [-7, number])

    def assert_taken(self, sheets):
        row = [1, 0, 0] + [0] * (len(sheets) // 4 - 1)
        self.assertEqual(judge(0, frame_cartoon(), sheets, row), [0])
        self.assertEqual(lay(0, frame_cartoon(), sheets), [0, len(row)] + row)
        self.assertEqual(cuts(0, frame_cartoon(), sheets, row), [0, 0])
        self.assertEqual(where(0, 0, frame_cartoon(), sheets, row), [0, 0, 0, 0, 20, 16, 0])
        self.assertEqual(left(0, frame_cartoon(), sheets, row), [0, sheets[5] * sheets[6], 320])

    def test_bounds(self):
        for wrong in ([65536, 20, 16, 0], [MOST, 20, 16, 0], [3, 0, 16, 0], [3, 16777216, 16, 0], [3, MOST, 16, 0],
                      [3, 20, 0, 0], [3, 20, 16777216, 0], [3, 20, MOST, 0], [3, 20, 16, 2], [3, 20, 16, MOST]):
            self.assert_refused(wrong, 0)
            self.assert_refused(self.GOOD + wrong, 1)
            self.assert_refused(self.GOOD * 3 + wrong + self.GOOD + wrong, 3)

    def test_within_bounds(self):
        for right in ([0, 20, 16, 0], [65535, 20, 16, 0], [3, 1, 16, 0], [3, 16777215, 16, 0], [3, 20, 1, 0],
                      [3, 20, 16777215, 0], [3, 20, 16, 1]):
            self.assert_taken(self.GOOD + right)

    def test_last_of_all_sheets(self):
        sheets = self.GOOD * 1023 + [3, 0, 16, 0]
        self.assertEqual(judge(0, frame_cartoon(), sheets, [4]), [-7, 1023])
        self.assertEqual(lay(0, frame_cartoon(), sheets), [-7, 1023])
        for call in ROW_CALLS:
            self.assertEqual(call(0, frame_cartoon(), sheets, [4]), [-7, 1023])

    def test_first_of_two(self):
        self.assert_refused([3, 20, 16, 2, 65536, 20, 16, 0], 0)

    def test_before_what_the_row_breaks(self):
        self.assertEqual(judge(0, frame_cartoon(), self.GOOD + [3, 0, 16, 0], [4]), [-7, 1])
        for call in ROW_CALLS:
            self.assertEqual(call(0, frame_cartoon(), self.GOOD + [3, 0, 16, 0], [4]), [-7, 1])


class NoSuchPane(unittest.TestCase):
    def test_last_pane_and_one_behind(self):
        self.assertEqual(blank(0, 2, run_cartoon()), [0, 30, 20])
        self.assertEqual(blank(0, 0, frame_cartoon()), [0, 20, 16])
        for i in (3, 4, 65536, MOST):
            self.assertEqual(blank(0, i, run_cartoon()), [-2])
        self.assertEqual(blank(0, 1, frame_cartoon()), [-2])

    def test_of_where_with_a_right_layout(self):
        self.assertEqual(where(1, 2, run_cartoon(), RUN_SHEETS, RUN_ROW), [0, 0, 0, 0, 32, 22, 0])
        self.assertEqual(where(0, 0, frame_cartoon(), [3, 20, 16, 0], [1, 0, 0]), [0, 0, 0, 0, 20, 16, 0])
        for i in (3, 4, 65536, MOST):
            self.assertEqual(where(1, i, run_cartoon(), RUN_SHEETS, RUN_ROW), [-2])
        self.assertEqual(where(0, 1, frame_cartoon(), [3, 20, 16, 0], [1, 0, 0]), [-2])

    def test_of_where_with_a_layout_that_is_not_right(self):
        for row, place in ((RUN_ROW + [0], 18), (RUN_ROW[:-1], 17), ([4], 0), ([], 0), ([0, 0, 0], 3)):
            for i in (0, 2):
                self.assertEqual(where(1, i, run_cartoon(), RUN_SHEETS, row), [-3, place])
            for i in (3, 4, MOST):
                self.assertEqual(where(1, i, run_cartoon(), RUN_SHEETS, row), [-2])

    def test_of_where_without_sheets(self):
        self.assertEqual(where(0, 0, frame_cartoon(), [], []), [-3, 0])
        self.assertEqual(where(0, 1, frame_cartoon(), [], []), [-2])


class OrderOfRefusals(unittest.TestCase):
    def test_blank(self):
        due = {-1: [-1], -6: [-6], -5: [-5, 1, 0], -2: [-2]}
        for first, second in itertools.combinations([-1, -6, -5, -2], 2):
            both = (first, second)
            margin = 65536 if -1 in both else 0
            i = 3 if -2 in both else 0
            data = run_cartoon()
            if -5 in both:
                data = put(data, 0, 1, 0)
            if -6 in both:
                data = data + [0] * 131072
            self.assertEqual(blank(margin, i, data), due[first])

    def handed(self, refused):
        """A margin, bytes and sheets for which what's told is refused; for -3 no sheet holds the blank."""
        margin = 65536 if -1 in refused else 0
        sheets = [3, 20, 15 if -3 in refused else 16, 0]
        data = frame_cartoon()
        if -7 in refused:
            sheets = [3, 0, 16, 0]
        if -5 in refused:
            data = put(data, 0, 1, 0)
        if -6 in refused:
            sheets = sheets * 1025
        return margin, data, sheets

    DUE = {-1: [-1], -6: [-6], -5: [-5, 1, 0], -7: [-7, 0], -2: [-2]}

    def test_judge(self):
        for both in itertools.combinations([-1, -6, -5, -7], 2):
            self.assertEqual(judge(*self.handed(both), [4]), self.DUE[both[0]])

    def test_lay(self):
        self.assertEqual(lay(*self.handed([])), [0, 3, 1, 0, 0])
        self.assertEqual(lay(*self.handed([-3])), [-3, 0])
        for both in itertools.combinations([-1, -6, -5, -7, -3], 2):
            self.assertEqual(lay(*self.handed(both)), self.DUE[both[0]])

    def test_cuts_and_left(self):
        self.assertEqual(cuts(*self.handed([]), [1, 0, 0]), [0, 0])
        self.assertEqual(left(*self.handed([]), [1, 0, 0]), [0, 0, 320])
        for call in (cuts, left):
            self.assertEqual(call(*self.handed([-3]), [1, 0, 0]), [-3, 1])
            for both in itertools.combinations([-1, -6, -5, -7, -3], 2):
                self.assertEqual(call(*self.handed(both), [1, 0, 0]), self.DUE[both[0]])
                self.assertEqual(call(*self.handed(both), [4]), self.DUE[both[0]])

    def told_where(self, refused, row):
        margin, data, sheets = self.handed(refused)
        return where(margin, 1 if -2 in refused else 0, data, sheets, row)

    def test_where(self):
        self.assertEqual(self.told_where([], [1, 0, 0]), [0, 0, 0, 0, 20, 16, 0])
        self.assertEqual(self.told_where([-2], [1, 0, 0]), [-2])
        self.assertEqual(self.told_where([-3], [1, 0, 0]), [-3, 1])
        for both in itertools.combinations([-1, -6, -5, -7, -2, -3], 2):
            self.assertEqual(self.told_where(both, [1, 0, 0]), self.DUE[both[0]])
            if -3 in both:
                self.assertEqual(self.told_where(both, [4]), self.DUE[both[0]])

    def test_all_at_once(self):
        self.assertEqual(blank(65536, 9, [0] * 131073), [-1])
        self.assertEqual(judge(65536, [], [3, 0, 16, 0] * 1025, [4]), [-1])
        self.assertEqual(judge(65535, [], [3, 0, 16, 0] * 1025, [4]), [-6])
        self.assertEqual(judge(65535, [], [3, 0, 16, 0] * 1024, [4]), [-5, 1, 0])
        self.assertEqual(lay(65536, [], [3, 0, 16, 0] * 1025), [-1])
        self.assertEqual(lay(65535, [], [3, 0, 16, 0] * 1025), [-6])
        self.assertEqual(lay(65535, [], [3, 0, 16, 0] * 1024), [-5, 1, 0])
        self.assertEqual(lay(65535, frame_cartoon(), [3, 1, 16, 0] * 1023 + [3, 0, 16, 0]), [-7, 1023])
        self.assertEqual(lay(65535, frame_cartoon(), [3, 1, 16, 0] * 1024), [-3, 0])
        for call in ROW_CALLS:
            self.assertEqual(call(65536, [], [3, 0, 16, 0] * 1025, [4]), [-1])
            self.assertEqual(call(65535, [], [3, 0, 16, 0] * 1025, [4]), [-6])
            self.assertEqual(call(65535, [], [3, 0, 16, 0] * 1024, [4]), [-5, 1, 0])
            self.assertEqual(call(65535, frame_cartoon(), [3, 1, 16, 0] * 1023 + [3, 0, 16, 0], [4]), [-7, 1023])
            self.assertEqual(call(65535, frame_cartoon(), [3, 1, 16, 0] * 1024, [4]), [-3, 0])

    def test_all_at_once_of_where(self):
        wrong, bad = [3, 0, 16, 0], [3, 1, 16, 0]
        self.assertEqual(where(65536, MOST, [], wrong * 1025, [4]), [-1])
        self.assertEqual(where(65535, MOST, [], wrong * 1025, [4]), [-6])
        self.assertEqual(where(65535, MOST, [], wrong * 1024, [4]), [-5, 1, 0])
        self.assertEqual(where(65535, MOST, frame_cartoon(), bad * 1023 + wrong, [4]), [-7, 1023])
        self.assertEqual(where(65535, 1, frame_cartoon(), bad * 1024, [4]), [-2])
        self.assertEqual(where(65535, 0, frame_cartoon(), bad * 1024, [4]), [-3, 0])


if __name__ == "__main__":
    unittest.main()
