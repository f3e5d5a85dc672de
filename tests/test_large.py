"""Large cartoons and deep rows: answers in reasonable time, with no call nested deep."""

import sys
import time
import unittest

from build import frame_cartoon, grid_cartoon, pack, pack_places
from glasssheets.layouts import blank, cuts, judge, lay, left, where

SECONDS = 5
CALLS = 30


def depth():
    frame = sys._getframe()
    many = 0
    while frame is not None:
        many += 1
        frame = frame.f_back
    return many


class LargeTest(unittest.TestCase):
    def soon(self, call, *handed):
        """What the call answers, with little time and few calls within one another allowed."""
        limit = sys.getrecursionlimit()
        start = time.perf_counter()
        sys.setrecursionlimit(depth() + CALLS)
        try:
            told = call(*handed)
        finally:
            sys.setrecursionlimit(limit)
        self.assertLess(time.perf_counter() - start, SECONDS)
        return told


class LargeCartoons(LargeTest):
    def test_grid_of_200_points_and_150_marks(self):
        data = grid_cartoon(15, 10, 24)
        self.assertEqual(data[12:18], [200, 0, 349 - 256, 1, 150, 0])
        self.assertEqual(self.soon(blank, 1, 149, data), [0, 12, 12])
        self.assertEqual(self.soon(blank, 1, 150, data), [-2])

    def test_grid_laid_out_with_900_numbers(self):
        data = grid_cartoon(15, 10, 24)
        # A strip of blanks, cut one by one; 50 of the cuts have something left over beside them.
        row = []
        for pane in range(150):
            row += [2, 10, 1, pane, 0] if pane < 149 else [1, pane, 0]
            if pane < 50:
                row += [2, 1, 0]
        row += [0, 0]
        self.assertEqual(len(row), 900)
        sheets = [1, 10 * 150 + 50, 10, 0] + [9, 1, 1, 0] * 2
        self.assertEqual(self.soon(judge, 0, data, sheets, row), [0])
        self.assertEqual(self.soon(judge, 0, data, [1, 10 * 150 + 49] + sheets[2:], row), [0, 6, 896])
        self.assertEqual(self.soon(judge, 1, data, sheets, row), [0, 6, 3])
        due = []
        for pane in range(149):
            x = 10 * (pane + 1) + min(pane, 50)
            due += [0, x, 0, x, 10]
            if pane < 50:
                due += [0, x + 1, 0, x + 1, 10]
        self.assertEqual(self.soon(cuts, 0, data, sheets, row), [0, len(due)] + due)
        self.assertEqual(self.soon(cuts, 1, data, sheets, row), [-3, 3])
        self.assertEqual(self.soon(where, 0, 0, data, sheets, row), [0, 0, 0, 0, 10, 10, 0])
        self.assertEqual(self.soon(where, 0, 1, data, sheets, row), [0, 0, 11, 0, 21, 10, 0])
        self.assertEqual(self.soon(where, 0, 149, data, sheets, row), [0, 0, 1540, 0, 1550, 10, 0])
        self.assertEqual(self.soon(where, 1, 149, data, sheets, row), [-3, 3])
        self.assertEqual(self.soon(where, 1, 150, data, sheets, row), [-2])
        self.assertEqual(self.soon(left, 0, data, sheets, row), [0, 50 * 10 + 2, 15000])
        self.assertEqual(self.soon(left, 1, data, sheets, row), [-3, 3])

    def test_1024_sheets(self):
        # More sheets than a row of 900 numbers has nodes for.
        data = grid_cartoon(15, 10, 24)
        row = [number for pane in range(150) for number in (1, pane, 0)] + [0] * 450
        sheets = [1, 10, 10, 1] * 1024
        self.assertEqual(self.soon(where, 0, 149, data, sheets, row), [-3, 900])
        self.assertEqual(self.soon(left, 0, data, sheets, row), [-3, 900])
        self.assertEqual(self.soon(where, 0, 149, data, sheets[:4 * 600], row), [0, 149, 0, 0, 10, 10, 0])
        self.assertEqual(self.soon(left, 0, data, sheets[:4 * 600], row), [0, 45000, 15000])

    def test_grid_without_one_mark(self):
        data = grid_cartoon(15, 10, 24)
        data = data[:16] + [149] + data[17:-12]
        self.assertEqual(self.soon(blank, 0, 0, data), [-5, 13, len(data)])

    def test_one_long_ring(self):
        # The graph is one ring of 200 points: the longest ways, and the most corners, that there are.
        points = [(0, y) for y in range(0, 100)] + [(40, y) for y in range(0, 100)]
        left, right = points[:100], points[100:]
        segments = list(zip(left, left[1:])) + list(zip(right, right[1:]))
        segments += [((0, 0), (40, 0)), ((0, 99), (40, 99))]
        data = pack_places(40, 99, points, segments, [(20, 50)])
        self.assertEqual(self.soon(blank, 5, 0, data), [0, 50, 109])

    def test_fan_with_as_many_lines_as_go_in(self):
        # All points on the left edge are joined with one on the right.
        left = [(0, y) for y in range(0, 198)]
        hub, top = (300, 0), (300, 197)
        segments = list(zip(left, left[1:])) + [(hub, top), (left[-1], top)] + [(hub, point) for point in left]
        data = pack_places(300, 197, left + [hub, top], segments, [(299, 150)])
        self.assertEqual(self.soon(blank, 0, 0, data), [-5, 13, len(data)])

    def test_8192_lines(self):
        points = [(x, 0) for x in range(0, 100)] + [(2 * x, 99) for x in range(49)] + [(99, 99)]
        lines = [(k, m) for k in range(150) for m in range(k + 1, 150)][:8192]
        frame = {(k, k + 1) for k in range(99)} | {(k, k + 1) for k in range(100, 149)} | {(0, 100), (99, 149)}
        lines = sorted(set(lines[:8192 - len(frame)]) | frame)
        data = pack(99, 99, points, lines, [(50, 50)])
        self.assertEqual(self.soon(blank, 0, 0, data), [-5, 7, 20 + 8 * 150 + 4])


class LargeLayings(LargeTest):
    """150 blanks of 10 by 10, where no others are told."""

    def setUp(self):
        self.data = grid_cartoon(15, 10, 24)

    def assert_laid(self, sheets, row):
        self.assertEqual(self.soon(lay, 0, self.data, sheets), [0, len(row)] + row)
        self.assertEqual(self.soon(judge, 0, self.data, sheets, row), [0])
        self.assertEqual(self.soon(cuts, 0, self.data, sheets, row)[0], 0)
        self.assertEqual(self.soon(where, 0, 148, self.data, sheets, row)[0], 0)
        areas = self.soon(left, 0, self.data, sheets, row)
        self.assertEqual(areas[1] + areas[2], sum(sheets[k + 1] * sheets[k + 2] for k in range(0, len(sheets), 4)))

    def test_a_sheet_for_each(self):
        row = []
        for pane in range(150):
            row += [1, pane, 0]
        self.assert_laid([1, 10, 10, 1] * 1024, row + [0] * 874)

    def test_last_of_1024_sheets(self):
        row = [0] * 874
        for pane in range(150):
            row += [2, 10, 1, pane, 0, 0]
        self.assert_laid([1, 9, 20, 1] * 874 + [1, 19, 10, 1] * 150, row)

    def test_1024_sheets_too_small_by_one(self):
        self.assertEqual(self.soon(lay, 0, self.data, [1, 9, 10, 1] * 1024), [-3, 0])
        self.assertEqual(self.soon(lay, 0, self.data, [1, 10, 10, 1] * 149 + [1, 9, 10, 1] * 875), [-3, 149])

    def test_one_shelf(self):
        row = []
        for pane in range(150):
            row += [2, 10, 1, pane, 0]
        self.assert_laid([1, 1501, 10, 1] + [1, 1500, 10, 1] * 1023, row + [0] + [0] * 1023)

    def test_150_shelves(self):
        row = []
        for pane in range(150):
            row += [3, 10, 1, pane, 0]
        self.assert_laid([1, 10, 1501, 1] + [2, 1500, 1500, 1] * 1023, row + [0] + [0] * 1023)

    def test_panes_of_a_fan(self):
        # Panes between lines from one point: 600 wide, 4, 8, .. 592 high, and the last one 592 as well.
        left = [(0, 4 * y) for y in range(149)]
        hub, top = (600, 0), (600, 592)
        segments = list(zip(left, left[1:])) + [(hub, top), (left[-1], top)] + [(hub, point) for point in left]
        marks = [(1, 4 * y + 2, 1) for y in range(148)] + [(599, 591, 1)]
        self.data = pack_places(600, 592, left + [hub, top], segments, marks)
        # Two fill a sheet each; of the others the lower ones fill what the higher leave; one has none of its height.
        row = [1, 147, 0, 1, 148, 0]
        for pane in range(146, 73, -1):
            row += [3, 4 * (pane + 1), 1, pane, 0, 1, 146 - pane, 0]
        row += [3, 296, 1, 73, 0, 0]
        self.assert_laid([1, 600, 592, 0] * 1024, row + [0] * (1024 - 76))


class DeepRows(LargeTest):
    def assert_place(self, row, sheet, place):
        """Where the one blank, of 20 by 16, lies on the one sheet, and what's left over of that."""
        self.assertEqual(self.soon(where, 0, 0, frame_cartoon(), sheet, row), [0, 0] + place)
        self.assertEqual(self.soon(left, 0, frame_cartoon(), sheet, row), [0, sheet[1] * sheet[2] - 320, 320])

    def test_parts_to_the_left(self):
        row = []
        for cut in range(999, 999 - 299, -1):
            row += [2, cut]
        row += [1, 0, 0] + [0] * 299
        self.assertEqual(len(row), 900)
        self.assertEqual(self.soon(judge, 0, frame_cartoon(), [3, 1000, 50, 0], row), [0])
        self.assertEqual(self.soon(judge, 0, frame_cartoon(), [3, 999, 50, 0], row), [0, 2, 1])
        self.assertEqual(self.soon(judge, 0, frame_cartoon(), [3, 1000, 50, 0], row[:-1]), [0, 1, 899])
        due = [number for x in range(999, 700, -1) for number in (0, x, 0, x, 50)]
        self.assertEqual(self.soon(cuts, 0, frame_cartoon(), [3, 1000, 50, 0], row), [0, 5 * 299] + due)
        self.assertEqual(self.soon(cuts, 0, frame_cartoon(), [3, 1000, 50, 0], row[:-1]), [-3, 899])
        self.assert_place(row, [3, 1000, 50, 0], [0, 0, 701, 50, 0])
        self.assertEqual(self.soon(left, 0, frame_cartoon(), [3, 1000, 50, 0], row[:-1]), [-3, 899])
        self.assertEqual(self.soon(where, 0, 0, frame_cartoon(), [3, 1000, 50, 0], row[:-1]), [-3, 899])

    def test_parts_above(self):
        row = [3, 1, 0] * 299 + [1, 0, 0]
        self.assertEqual(len(row), 900)
        self.assertEqual(self.soon(judge, 0, frame_cartoon(), [3, 50, 299 + 16, 0], row), [0])
        self.assertEqual(self.soon(judge, 0, frame_cartoon(), [3, 50, 299 + 15, 0], row), [0, 6, 898])
        self.assertEqual(self.soon(judge, 0, frame_cartoon(), [3, 50, 298, 0], row), [0, 2, 3 * 297 + 1])
        due = [number for y in range(1, 300) for number in (0, 0, y, 50, y)]
        self.assertEqual(self.soon(cuts, 0, frame_cartoon(), [3, 50, 299 + 16, 0], row), [0, 5 * 299] + due)
        self.assert_place(row, [3, 50, 299 + 16, 0], [0, 299, 50, 315, 0])

    def test_cuts_alone(self):
        row = []
        for cut in range(999, 999 - 450, -1):
            row += [3, cut]
        self.assertEqual(len(row), 900)
        self.assertEqual(self.soon(judge, 0, frame_cartoon(), [3, 50, 1000, 0], row), [0, 1, 900])
        self.assertEqual(self.soon(cuts, 0, frame_cartoon(), [3, 50, 1000, 0], row), [-3, 900])
        self.assertEqual(self.soon(where, 0, 0, frame_cartoon(), [3, 50, 1000, 0], row), [-3, 900])
        self.assertEqual(self.soon(left, 0, frame_cartoon(), [3, 50, 1000, 0], row), [-3, 900])

    def test_upright_and_level_in_turn(self):
        row = []
        for k in range(149):
            row += [2, 999 - k, 3, 999 - k]
        row += [1, 0, 1] + [0] * 298
        self.assertEqual(len(row), 897)
        self.assertEqual(self.soon(judge, 0, frame_cartoon(), [3, 1000, 1000, 1], row), [0])
        due = []
        for k in range(149):
            due += [0, 999 - k, 0, 999 - k, 1000 - k, 0, 0, 999 - k, 999 - k, 999 - k]
        self.assertEqual(self.soon(cuts, 0, frame_cartoon(), [3, 1000, 1000, 1], row), [0, len(due)] + due)
        self.assert_place(row, [3, 1000, 1000, 1], [0, 0, 851, 851, 1])

    def test_parts_to_the_right_and_above_in_turn(self):
        row = [2, 2, 0, 3, 1, 0] * 149 + [1, 0, 0]
        self.assertEqual(len(row), 897)
        due = []
        for k in range(149):
            due += [0, 2 * k + 2, k, 2 * k + 2, 1000, 0, 2 * k + 2, k + 1, 1000, k + 1]
        self.assertEqual(self.soon(cuts, 0, frame_cartoon(), [3, 1000, 1000, 0], row), [0, len(due)] + due)
        self.assert_place(row, [3, 1000, 1000, 0], [298, 149, 1000, 1000, 0])


if __name__ == "__main__":
    unittest.main()
