"""What's left over of all sheets, and what all blanks cover."""

import unittest

from build import RUN_ROW, RUN_SHEETS, frame_cartoon, pack, row_cartoon, run_cartoon
from glasssheets.layouts import left

MOST_LENGTH = 16777215


class LeftTest(unittest.TestCase):
    """The frame's one blank is 20 wide and 16 high, of glass 3: its area is 320."""

    def assert_left(self, sheets, row, due, margin=0):
        told = left(margin, frame_cartoon(), sheets, row)
        self.assertEqual(told, [0] + due)
        self.assertEqual(sum(due), sum(sheets[k + 1] * sheets[k + 2] for k in range(0, len(sheets), 4)))


class NoCut(LeftTest):
    def test_blank_just_as_its_piece(self):
        self.assert_left([3, 20, 16, 0], [1, 0, 0], [0, 320])

    def test_narrower(self):
        self.assert_left([3, 21, 16, 0], [1, 0, 0], [16, 320])
        self.assert_left([3, 50, 16, 0], [1, 0, 0], [480, 320])

    def test_lower(self):
        self.assert_left([3, 20, 17, 0], [1, 0, 0], [20, 320])
        self.assert_left([3, 20, 46, 0], [1, 0, 0], [600, 320])

    def test_narrower_and_lower(self):
        self.assert_left([3, 21, 17, 0], [1, 0, 0], [16 + 20 + 1, 320])
        self.assert_left([3, 50, 46, 0], [1, 0, 0], [50 * 46 - 320, 320])

    def test_turned(self):
        self.assert_left([3, 16, 20, 1], [1, 0, 1], [0, 320])
        self.assert_left([3, 17, 20, 1], [1, 0, 1], [20, 320])
        self.assert_left([3, 16, 21, 1], [1, 0, 1], [16, 320])
        self.assert_left([3, 30, 40, 1], [1, 0, 1], [880, 320])
        self.assert_left([3, 30, 40, 1], [1, 0, 0], [880, 320])

    def test_sheets_without_a_pane(self):
        self.assert_left([3, 20, 16, 0, 3, 5, 7, 1, 9, 100, 30, 0], [1, 0, 0, 0, 0], [35 + 3000, 320])
        self.assert_left([3, 5, 7, 1, 9, 100, 30, 0, 3, 20, 16, 0], [0, 0, 1, 0, 0], [35 + 3000, 320])
        self.assert_left([3, 1, 1, 0] * 897 + [3, 20, 16, 0], [0] * 897 + [1, 0, 0], [897, 320])

    def test_margin_counts_for_the_blank(self):
        self.assert_left([3, 50, 40, 0], [1, 0, 0], [2000 - 320, 320])
        self.assert_left([3, 50, 40, 0], [1, 0, 0], [2000 - 22 * 18, 22 * 18], margin=1)
        self.assert_left([3, 50, 40, 0], [1, 0, 0], [2000 - 44 * 40, 44 * 40], margin=12)
        self.assert_left([3, 50, 40, 1], [1, 0, 1], [2000 - 36 * 32, 36 * 32], margin=8)


class WithCuts(LeftTest):
    def test_pieces_left_over_alone(self):
        self.assert_left([3, 60, 50, 0], [2, 20, 3, 16, 1, 0, 0, 0, 0], [20 * 34 + 40 * 50, 320])
        self.assert_left([3, 60, 50, 0], [3, 34, 2, 7, 0, 0, 2, 40, 0, 1, 0, 0], [7 * 34 + 53 * 34 + 40 * 16, 320])

    def test_pieces_left_over_and_beside_the_blank(self):
        self.assert_left([3, 60, 50, 0], [2, 25, 3, 20, 1, 0, 0, 0, 0], [25 * 20 - 320 + 25 * 30 + 35 * 50, 320])
        self.assert_left([3, 60, 50, 1], [2, 25, 3, 20, 1, 0, 1, 0, 0], [25 * 20 - 320 + 25 * 30 + 35 * 50, 320])

    def test_cuts_change_no_sum(self):
        for node in ([0], [2, 1, 0, 0], [3, 49, 0, 0], [2, 30, 3, 10, 0, 0, 3, 20, 0, 2, 5, 0, 0],
                     [3, 20, 2, 40, 3, 7, 0, 0, 0, 2, 11, 0, 0]):
            self.assert_left([3, 20, 16, 0, 7, 100, 50, 0], [1, 0, 0] + node, [5000, 320])

    def test_several_panes(self):
        sheets = [2, 20, 16, 0, 1, 70, 50, 1, 2, 16, 20, 1, 5, 3, 3, 0]
        row = [1, 3, 0, 3, 30, 2, 45, 1, 2, 1, 0, 1, 0, 0, 1, 1, 1, 0]
        self.assertEqual(left(0, row_cartoon([1, 2, 1, 2]), sheets, row), [0, 3500 - 640 + 9, 1280])

    def test_the_document_s_run(self):
        self.assertEqual(left(1, run_cartoon(), RUN_SHEETS, RUN_ROW), [0, 712, 1352])
        # Without the margin the blanks are 30 by 10, 10 by 20 and 30 by 20.
        self.assertEqual(left(0, run_cartoon(), RUN_SHEETS, RUN_ROW), [0, 712 + 252, 1100])


class LargeAreas(LeftTest):
    def test_greatest_sheet(self):
        whole = MOST_LENGTH * MOST_LENGTH
        self.assert_left([3, MOST_LENGTH, MOST_LENGTH, 1], [1, 0, 0], [whole - 320, 320])
        self.assert_left([3, MOST_LENGTH, MOST_LENGTH, 1], [1, 0, 1], [whole - 320, 320])
        self.assert_left([3, MOST_LENGTH, MOST_LENGTH, 1], [2, 1, 0, 3, MOST_LENGTH - 20, 0, 1, 0, 1],
                         [whole - 320, 320])

    def test_many_greatest_sheets(self):
        whole = MOST_LENGTH * MOST_LENGTH
        self.assert_left([3, MOST_LENGTH, MOST_LENGTH, 1] * 898, [1, 0, 0] + [0] * 897, [898 * whole - 320, 320])

    def test_greatest_blanks(self):
        most = 1048575
        points = [(0, 0), (most, 0), (0, most), (most, most)]
        data = pack(most, most, points, [(0, 1), (0, 2), (0, 3), (1, 3), (2, 3)],
                    [(most - 1, most - 2, 3), (most - 2, most - 1, 3)])
        side = most + 131070
        sheets = [3, 2 * side, side, 0] + [3, MOST_LENGTH, MOST_LENGTH, 0]
        covered = 2 * side * side
        self.assertEqual(left(65535, data, sheets, [2, side, 1, 0, 0, 1, 1, 0, 0]), [0, MOST_LENGTH ** 2, covered])
        self.assertEqual(left(65535, data, sheets, [2, side, 1, 0, 0, 0, 1, 1, 0]), [0, MOST_LENGTH ** 2, covered])


if __name__ == "__main__":
    unittest.main()
