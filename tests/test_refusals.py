"""What blank and judge refuse, at the edges, and which of two refusals comes first."""

import itertools
import unittest

from build import RUN_ROW, RUN_SHEETS, frame_cartoon, put, run_cartoon
from glasssheets.layouts import blank, judge

MOST = 4294967295


class Margin(unittest.TestCase):
    def test_blank(self):
        self.assertEqual(blank(65535, 0, frame_cartoon()), [0, 20 + 131070, 16 + 131070])
        self.assertEqual(blank(0, 0, frame_cartoon()), [0, 20, 16])
        for margin in (65536, 131072, MOST):
            self.assertEqual(blank(margin, 0, frame_cartoon()), [-1])

    def test_judge(self):
        sheets = [3, 16777215, 16777215, 0]
        self.assertEqual(judge(65535, frame_cartoon(), sheets, [1, 0, 0]), [0])
        for margin in (65536, 131072, MOST):
            self.assertEqual(judge(margin, frame_cartoon(), sheets, [1, 0, 0]), [-1])


class TooMuch(unittest.TestCase):
    def test_sheets(self):
        sheets = [3, 20, 16, 0] * 1024
        row = [1, 0, 0] + [0] * 897
        self.assertEqual(judge(0, frame_cartoon(), sheets[:4 * 898], row), [0])
        self.assertEqual(judge(0, frame_cartoon(), sheets, row), [0, 1, 900])
        self.assertEqual(judge(0, frame_cartoon(), sheets + [3, 20, 16, 0], row), [-6])
        self.assertEqual(judge(0, frame_cartoon(), sheets + [3, 20, 16, 0] * 26, row), [-6])

    def test_bytes(self):
        self.assertEqual(blank(0, 0, frame_cartoon() + [0] * (100000 - 100)), [-5, 3, 20])
        self.assertEqual(blank(0, 0, [0] * 131072), [-5, 1, 0])
        self.assertEqual(blank(0, 0, [0] * 131073), [-6])
        self.assertEqual(judge(0, [0] * 131072, [], []), [-5, 1, 0])
        self.assertEqual(judge(0, [0] * 131073, [], []), [-6])


class NoCartoon(unittest.TestCase):
    def test_empty(self):
        self.assertEqual(blank(0, 0, []), [-5, 1, 0])
        self.assertEqual(judge(0, [], [], []), [-5, 1, 0])

    def test_rule_and_place(self):
        data = put(run_cartoon(), 18, 2, 7)
        self.assertEqual(blank(1, 0, data), [-5, 2, 18])
        self.assertEqual(judge(1, data, RUN_SHEETS, RUN_ROW), [-5, 2, 18])


class WrongSheets(unittest.TestCase):
    GOOD = [3, 20, 16, 0]

    def judged(self, sheets):
        return judge(0, frame_cartoon(), sheets, [1, 0, 0] + [0] * (len(sheets) // 4 - 1))

    def test_bounds(self):
        for wrong in ([65536, 20, 16, 0], [MOST, 20, 16, 0], [3, 0, 16, 0], [3, 16777216, 16, 0], [3, MOST, 16, 0],
                      [3, 20, 0, 0], [3, 20, 16777216, 0], [3, 20, MOST, 0], [3, 20, 16, 2], [3, 20, 16, MOST]):
            self.assertEqual(self.judged(wrong), [-7, 0])
            self.assertEqual(self.judged(self.GOOD + wrong), [-7, 1])
            self.assertEqual(self.judged(self.GOOD * 3 + wrong + self.GOOD + wrong), [-7, 3])

    def test_within_bounds(self):
        for right in ([0, 20, 16, 0], [65535, 20, 16, 0], [3, 1, 16, 0], [3, 16777215, 16, 0], [3, 20, 1, 0],
                      [3, 20, 16777215, 0], [3, 20, 16, 1]):
            self.assertEqual(self.judged(self.GOOD + right), [0])

    def test_last_of_all_sheets(self):
        sheets = self.GOOD * 1023 + [3, 0, 16, 0]
        self.assertEqual(judge(0, frame_cartoon(), sheets, [4]), [-7, 1023])

    def test_first_of_two(self):
        self.assertEqual(self.judged([3, 20, 16, 2, 65536, 20, 16, 0]), [-7, 0])

    def test_before_what_the_row_breaks(self):
        self.assertEqual(judge(0, frame_cartoon(), self.GOOD + [3, 0, 16, 0], [4]), [-7, 1])


class NoSuchPane(unittest.TestCase):
    def test_last_pane_and_one_behind(self):
        self.assertEqual(blank(0, 2, run_cartoon()), [0, 30, 20])
        self.assertEqual(blank(0, 0, frame_cartoon()), [0, 20, 16])
        for i in (3, 4, 65536, MOST):
            self.assertEqual(blank(0, i, run_cartoon()), [-2])
        self.assertEqual(blank(0, 1, frame_cartoon()), [-2])


class OrderOfRefusals(unittest.TestCase):
    def test_blank(self):
        due = {-1: [-1], -6: [-6], -5: [-5, 1, 0], -2: [-2]}
        for first, second in itertools.combinations([-1, -6, -5, -2], 2):
            both = (first, second)
            margin = 65536 if -1 in both else 0
            i = 3 if -2 in both else 0
            data = run_cartoon()
            if -5 in both:
                data = put(data, 0, 1, 0)
            if -6 in both:
                data = data + [0] * 131072
            self.assertEqual(blank(margin, i, data), due[first])

    def test_judge(self):
        due = {-1: [-1], -6: [-6], -5: [-5, 1, 0], -7: [-7, 0]}
        for first, second in itertools.combinations([-1, -6, -5, -7], 2):
            both = (first, second)
            margin = 65536 if -1 in both else 0
            sheets = [3, 0, 16, 0] if -7 in both else [3, 20, 16, 0]
            data = frame_cartoon()
            if -5 in both:
                data = put(data, 0, 1, 0)
            if -6 in both:
                sheets = sheets * 1025
            self.assertEqual(judge(margin, data, sheets, [4]), due[first])

    def test_all_at_once(self):
        self.assertEqual(blank(65536, 9, [0] * 131073), [-1])
        self.assertEqual(judge(65536, [], [3, 0, 16, 0] * 1025, [4]), [-1])
        self.assertEqual(judge(65535, [], [3, 0, 16, 0] * 1025, [4]), [-6])
        self.assertEqual(judge(65535, [], [3, 0, 16, 0] * 1024, [4]), [-5, 1, 0])


if __name__ == "__main__":
    unittest.main()
