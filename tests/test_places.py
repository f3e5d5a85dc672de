"""where and left beside a second reading of the document, and the promises 2 and 3, over many layouts made by chance
from fixed seeds."""

import itertools
import random
import unittest

import reference
from build import RUN_ROW, RUN_SHEETS, run_cartoon
from chance import box_panes, chance_boxes, chance_layout, cut_up, judged_rows, right_cartoons
from glasssheets.layouts import blank, cuts, judge, lay, left, look, look_at_row, where


def sheet_areas(sheets):
    return [sheets[k + 1] * sheets[k + 2] for k in range(0, len(sheets), 4)]


def area(corners):
    return (corners[2] - corners[0]) * (corners[3] - corners[1])


def overlap(one, other):
    """Whether two rectangles have a point within in common."""
    return max(one[0], other[0]) < min(one[2], other[2]) and max(one[1], other[1]) < min(one[3], other[3])


def uncut_pieces(margin, data, sheets, row):
    """The pieces with nodes 0 and 1 as the program reads them, for each sheet."""
    found = [[] for _ in sheet_areas(sheets)]
    for node in look_at_row(look(margin, data, sheets), row).nodes:
        if node.numbers[0] in (0, 1):
            piece = node.piece
            found[node.sheet_number].append((piece.x, piece.y, piece.x + piece.width, piece.y + piece.height))
    return found


class PlacesTest(unittest.TestCase):
    def assert_right(self, data, panes, margin, sheets, row):
        with self.subTest(data=data, margin=margin, sheets=sheets, row=row):
            self.assertEqual(judge(margin, data, sheets, row), [0])
            told = [where(margin, i, data, sheets, row) for i in range(len(panes))]
            self.assertEqual(told, [reference.where(sheets, row, i) for i in range(len(panes))])
            self.assertEqual(where(margin, len(panes), data, sheets, row), [-2])
            self.assert_within(data, margin, sheets, told)
            self.assert_pieces(data, margin, sheets, row, told)
            self.assert_areas(data, panes, margin, sheets, row)
        return told

    def assert_within(self, data, margin, sheets, told):
        """Promise 3: each pane's blank lies within its piece, and that within its sheet; no two panes share a piece."""
        for i, (zero, sheet, x, y, right, upper, turned) in enumerate(told):
            width, height = blank(margin, i, data)[1:]
            across, up = (height, width) if turned else (width, height)
            self.assertTrue(0 <= x and x + across <= right <= sheets[4 * sheet + 1])
            self.assertTrue(0 <= y and y + up <= upper <= sheets[4 * sheet + 2])
        for one, other in itertools.combinations(told, 2):
            self.assertFalse(one[1] == other[1] and overlap(one[2:6], other[2:6]))

    def assert_pieces(self, data, margin, sheets, row, told):
        """Promise 2: a sheet's pieces have no point within in common and come to it; panes' pieces are among them."""
        pieces = uncut_pieces(margin, data, sheets, row)
        for mine, whole in zip(pieces, sheet_areas(sheets)):
            self.assertEqual(sum(area(piece) for piece in mine), whole)
            for one, other in itertools.combinations(mine, 2):
                self.assertFalse(overlap(one, other))
        for place in told:
            self.assertIn(tuple(place[2:6]), pieces[place[1]])
        # Each cut makes one piece more.
        self.assertEqual(sum(len(mine) for mine in pieces), len(pieces) + cuts(margin, data, sheets, row)[1] // 5)

    def assert_areas(self, data, panes, margin, sheets, row):
        """Promise 2: left's areas come to all sheets', the second to all blanks'."""
        told = left(margin, data, sheets, row)
        self.assertEqual(told, reference.left(panes, margin, sheets, row))
        self.assertEqual(told[1] + told[2], sum(sheet_areas(sheets)))
        blanks = [blank(margin, i, data) for i in range(len(panes))]
        self.assertEqual(told[2], sum(width * height for zero, width, height in blanks))


class Reference(unittest.TestCase):
    def test_run(self):
        panes = reference.judge_bytes(run_cartoon())[2]
        self.assertEqual([reference.where(RUN_SHEETS, RUN_ROW, i) for i in range(3)],
                         [[0, 1, 0, 0, 12, 32, 1], [0, 2, 0, 0, 12, 22, 0], [0, 0, 0, 0, 32, 22, 0]])
        self.assertEqual(reference.left(panes, 1, RUN_SHEETS, RUN_ROW), [0, 712, 1352])


class RightLayouts(PlacesTest):
    def test_cut_in_all_ways(self):
        source = random.Random(30)
        turned = loose = just = empty = 0
        for _ in range(250):
            data, panes = box_panes(source, 2)
            margin = source.choice([0, 1, 2, source.randrange(1000), 65535])
            sheets, row = chance_layout(source, panes, margin)
            told = self.assert_right(data, panes, margin, sheets, row)
            turned += any(place[6] for place in told)
            empty += len({place[1] for place in told}) < len(sheets) // 4
            spare = [area(place[2:6]) - (panes[i][1] + 2 * margin) * (panes[i][2] + 2 * margin)
                     for i, place in enumerate(told)]
            loose += any(spare)
            just += 0 in spare
        # Chance must have come by enough of each.
        self.assertGreater(min(turned, loose, just, empty), 50)

    def test_panes_of_many_shapes(self):
        source = random.Random(31)
        for data in right_cartoons(source, 14):
            panes = reference.judge_bytes(data)[2]
            for _ in range(8):
                margin = source.randrange(4)
                self.assert_right(data, panes, margin, *chance_layout(source, panes, margin))

    def test_with_a_smaller_margin_the_pieces_are_the_same(self):
        source = random.Random(32)
        for _ in range(60):
            data, panes = box_panes(source, 2)
            margin = source.randrange(1, 9)
            sheets, row = chance_layout(source, panes, margin)
            told = self.assert_right(data, panes, margin, sheets, row)
            self.assertEqual(self.assert_right(data, panes, source.randrange(margin), sheets, row), told)

    def test_what_was_laid(self):
        source = random.Random(33)
        laid = 0
        for _ in range(250):
            data, panes, sheets = chance_boxes(source)
            told = lay(1, data, sheets)
            if told[0] == 0:
                laid += 1
                places = self.assert_right(data, panes, 1, sheets, told[2:])
                self.assertEqual(self.assert_right(data, panes, 1, sheets, cut_up(source, sheets, told[2:])), places)
        self.assertGreater(laid, 60)


class Rows(PlacesTest):
    def test_right_ones_and_others(self):
        source = random.Random(21)
        right, rules = 0, set()
        for data, panes, margin, sheets, row, due in judged_rows(source):
            if due == [0]:
                right += 1
                self.assert_right(data, panes, margin, sheets, row)
                continue
            rules.add(due[1])
            with self.subTest(data=data, margin=margin, sheets=sheets, row=row):
                self.assertEqual(left(margin, data, sheets, row), [-3, due[2]])
                for i in range(len(panes)):
                    self.assertEqual(where(margin, i, data, sheets, row), [-3, due[2]])
                self.assertEqual(where(margin, len(panes), data, sheets, row), [-2])
        self.assertGreater(right, 15)
        self.assertEqual(rules, {1, 2, 3, 4, 5, 6, 7})

    def test_one_number_otherwise(self):
        source = random.Random(35)
        right = wrong = 0
        for _ in range(150):
            data, panes = box_panes(source, 2)
            sheets, row = chance_layout(source, panes, 1)
            k = source.randrange(len(row))
            row[k] = source.choice([0, 1, 2, 3, 4, row[k] + 1, max(0, row[k] - 1), 4294967295])
            due = reference.judge_layout(panes, 1, sheets, row)
            if due == [0]:
                right += 1
                self.assert_right(data, panes, 1, sheets, row)
            else:
                wrong += 1
                self.assertEqual(left(1, data, sheets, row), [-3, due[2]])
                self.assertEqual(where(1, source.randrange(len(panes)), data, sheets, row), [-3, due[2]])
        self.assertGreater(min(right, wrong), 15)


if __name__ == "__main__":
    unittest.main()
