"""lay and cuts beside a second reading of the document, and the promises 1, 4, 5 and 6, over many inputs made by chance
from fixed seeds. (The promises 2 and 3 are with test_places.py.)"""

import random
import unittest

import reference
from build import RUN_ROW, RUN_SHEETS, run_cartoon
from chance import box_panes, chance_boxes, chance_layout, chance_sheet, cut_up, judged_rows, right_cartoons
from glasssheets.layouts import blank, cuts, judge, lay, left, where


class LaidByRule(unittest.TestCase):
    """As the reference lays; judge says 0 of it (promise 1), and with a smaller margin too."""

    def assert_laid(self, data, panes, margin, sheets):
        """Gives back what lay told."""
        with self.subTest(data=data, margin=margin, sheets=sheets):
            told = lay(margin, data, sheets)
            self.assertEqual(told, reference.lay(panes, margin, sheets))
            if told[0] == 0:
                self.assertEqual(told[1], len(told) - 2)
                for smaller in range(margin + 1):
                    self.assertEqual(judge(smaller, data, sheets, told[2:]), [0])
        return told

    def test_reference_lays_the_run(self):
        panes = reference.judge_bytes(run_cartoon())[2]
        self.assertEqual(reference.lay(panes, 1, RUN_SHEETS), [0, 18] + RUN_ROW)

    def test_panes_of_many_shapes(self):
        source = random.Random(22)
        laid = 0
        for data in right_cartoons(source, 14):
            panes = reference.judge_bytes(data)[2]
            glasses = sorted(set(pane[0] for pane in panes))
            for _ in range(20):
                sheets = []
                for glass in glasses * 2:
                    sheets += [glass, source.randrange(20, 90), source.randrange(20, 90), source.randrange(2)]
                laid += self.assert_laid(data, panes, source.randrange(1, 4), sheets)[0] == 0
        self.assertGreater(laid, 50)

    def test_boxes_on_narrow_sheets(self):
        source = random.Random(23)
        laid = unlaid = turned = 0
        for _ in range(800):
            data, panes, sheets = chance_boxes(source)
            told = self.assert_laid(data, panes, source.randrange(3), sheets)
            if told[0] < 0:
                unlaid += 1
                continue
            laid += 1
            turned += any(place[2] for place in reference.places(sheets, told[2:]).values())
        # Chance must have come by enough of each.
        self.assertGreater(laid, 200)
        self.assertGreater(unlaid, 200)
        self.assertGreater(turned, 50)


class MoreSheets(unittest.TestCase):
    """Promise 5: sheets behind the others change nothing of what was laid."""

    def test_where_all_panes_were_laid(self):
        source = random.Random(24)
        laid = 0
        for _ in range(400):
            data, panes, sheets = chance_boxes(source)
            told = lay(1, data, sheets)
            if told[0] < 0:
                continue
            laid += 1
            more = source.randrange(1, 4)
            behind = [number for _ in range(more) for number in chance_sheet(source, 2)]
            with self.subTest(data=data, sheets=sheets, behind=behind):
                again = lay(1, data, sheets + behind)
                self.assertEqual(again, [0, told[1] + more] + told[2:] + [0] * more)
                for i in range(len(panes)):
                    self.assertEqual(where(1, i, data, sheets + behind, again[2:]), where(1, i, data, sheets, told[2:]))
        self.assertGreater(laid, 100)

    def test_where_some_panes_were_laid(self):
        source = random.Random(25)
        laid = unlaid = 0
        for _ in range(600):
            data, panes, sheets = chance_boxes(source)
            told = lay(1, data, sheets)
            if told[0] == 0:
                continue
            order = reference.order(panes)
            before = order[:order.index(told[1])]
            behind = [number for glass in (0, 1)
                      for number in (glass, source.randrange(8, 40), source.randrange(8, 40), source.randrange(2))]
            with self.subTest(data=data, sheets=sheets, behind=behind):
                again = lay(1, data, sheets + behind)
                if again[0] < 0:
                    unlaid += 1
                    self.assertIn(again[1], order[len(before):])
                    continue
                laid += 1
                places = reference.places(sheets + behind, again[2:])
                self.assertGreaterEqual(places[told[1]][0], len(sheets) // 4)
                self.assertEqual({pane: places[pane] for pane in before}, laid_alone(panes, before, sheets))
                for pane in before:
                    self.assertLess(where(1, pane, data, sheets + behind, again[2:])[1], len(sheets) // 4)
        self.assertGreater(laid, 50)
        self.assertGreater(unlaid, 15)


def laid_alone(panes, chosen, sheets):
    """The places of the chosen panes if there were no others."""
    numbers = sorted(chosen)
    told = reference.lay([panes[pane] for pane in numbers], 1, sheets)
    return {numbers[k]: place for k, place in reference.places(sheets, told[2:]).items()}


class CutsByChance(unittest.TestCase):
    """As the reference tells them; and (promise 4) the sheets can be parted by them one by one, each from edge to edge
    of one piece, until the layout's pieces are left."""

    def assert_cuts(self, data, margin, sheets, row):
        with self.subTest(data=data, margin=margin, sheets=sheets, row=row):
            told = cuts(margin, data, sheets, row)
            self.assertEqual(told, reference.cuts(sheets, row))
            left = [(k // 4, (0, 0, sheets[k + 1], sheets[k + 2])) for k in range(0, len(sheets), 4)]
            for k in range(2, len(told), 5):
                left = self.part(left, *told[k:k + 5])
            self.assertEqual(sorted(left), reference.pieces(sheets, row))

    def part(self, pieces, sheet, x, y, other_x, other_y):
        """The pieces once the one is cut that the cut goes through from edge to edge."""
        if x == other_x:
            cut = [piece for piece in pieces if piece[0] == sheet and piece[1][0] < x < piece[1][2]
                   and piece[1][1] == y and piece[1][3] == other_y]
        else:
            self.assertEqual(y, other_y)
            cut = [piece for piece in pieces if piece[0] == sheet and piece[1][1] < y < piece[1][3]
                   and piece[1][0] == x and piece[1][2] == other_x]
        self.assertEqual(len(cut), 1)
        left, lower, right, upper = cut[0][1]
        parts = [(left, lower, other_x, other_y), (x, y, right, upper)]
        return [piece for piece in pieces if piece != cut[0]] + [(sheet, part) for part in parts]

    def test_what_was_laid(self):
        source = random.Random(26)
        laid = 0
        for _ in range(500):
            data, panes, sheets = chance_boxes(source)
            told = lay(0, data, sheets)
            if told[0] == 0:
                laid += 1
                self.assert_cuts(data, 0, sheets, told[2:])
                self.assert_cuts(data, 0, sheets, cut_up(source, sheets, told[2:]))
        self.assertGreater(laid, 150)

    def test_layouts_cut_in_all_ways(self):
        source = random.Random(28)
        for _ in range(200):
            data, panes = box_panes(source, 2)
            margin = source.choice([0, 1, source.randrange(65536)])
            self.assert_cuts(data, margin, *chance_layout(source, panes, margin))

    def test_rows(self):
        source = random.Random(27)
        right = wrong = 0
        for data, panes, margin, sheets, row, due in judged_rows(source):
            if due == [0]:
                right += 1
                self.assert_cuts(data, margin, sheets, row)
            else:
                wrong += 1
                self.assertEqual(cuts(margin, data, sheets, row), [-3, due[2]])
        self.assertGreater(right, 20)
        self.assertGreater(wrong, 200)


class SmallerMargin(unittest.TestCase):
    """Promise 6: with a smaller margin a layout that's right stays right."""

    def assert_stays_right(self, data, panes, margin, smaller, sheets, row):
        """Also what the other calls tell of it: the same cuts and pieces, and blanks that cover less."""
        with self.subTest(data=data, margin=margin, smaller=smaller, sheets=sheets, row=row):
            self.assertEqual(judge(margin, data, sheets, row), [0])
            self.assertEqual(judge(smaller, data, sheets, row), [0])
            self.assertEqual(cuts(smaller, data, sheets, row), cuts(margin, data, sheets, row))
            for i in range(len(panes)):
                self.assertEqual(where(smaller, i, data, sheets, row), where(margin, i, data, sheets, row))
            least, most = left(smaller, data, sheets, row), left(margin, data, sheets, row)
            self.assertEqual(sum(least), sum(most))
            self.assertLess(least[2], most[2])

    def test_by_one_and_by_much(self):
        source = random.Random(50)
        turned = 0
        for _ in range(120):
            data, panes = box_panes(source, 2)
            margin = source.choice([1, 2, 3, source.randrange(4, 65535), 65535])
            sheets, row = chance_layout(source, panes, margin)
            turned += any(place[2] for place in reference.places(sheets, row).values())
            for smaller in sorted({margin - 1, margin // 2, 0, source.randrange(margin)}):
                self.assert_stays_right(data, panes, margin, smaller, sheets, row)
        self.assertGreater(turned, 40)

    def test_panes_of_many_shapes(self):
        source = random.Random(51)
        for data in right_cartoons(source, 10):
            panes = reference.judge_bytes(data)[2]
            for margin in (1, 2, 9, 65535):
                sheets, row = chance_layout(source, panes, margin)
                for smaller in (margin - 1, 0):
                    self.assert_stays_right(data, panes, margin, smaller, sheets, row)

    def test_what_was_laid(self):
        source = random.Random(52)
        laid = 0
        for _ in range(150):
            data, panes, sheets = chance_boxes(source)
            told = lay(2, data, sheets)
            if told[0] == 0:
                laid += 1
                for smaller in (0, 1):
                    self.assert_stays_right(data, panes, 2, smaller, sheets, told[2:])
        self.assertGreater(laid, 30)

    def test_just_fitting_pieces(self):
        # Each pane on a sheet just as large as its blank: with the next margin it's not right any more.
        source = random.Random(53)
        for _ in range(60):
            data, panes = box_panes(source, 3)
            margin = source.choice([1, 2, source.randrange(3, 65535)])
            sheets, row = [], []
            for i in source.sample(range(len(panes)), len(panes)):
                turned = source.randrange(2)
                width, height = blank(margin, i, data)[1:]
                sheets += [panes[i][0]] + ([height, width] if turned else [width, height]) + [1]
                row += [1, i, turned]
            self.assertEqual(left(margin, data, sheets, row)[:2], [0, 0])
            for smaller in sorted({margin - 1, 0, source.randrange(margin)}):
                self.assert_stays_right(data, panes, margin, smaller, sheets, row)
            self.assertEqual(judge(margin + 1, data, sheets, row), [0, 6, 1])

    def test_what_is_not_right_with_a_smaller_margin_is_not_with_a_greater_one(self):
        source = random.Random(54)
        wrong = 0
        for _ in range(150):
            data, panes = box_panes(source, 2)
            sheets, row = chance_layout(source, panes, source.randrange(3))
            margins = [judge(margin, data, sheets, row) == [0] for margin in range(9)]
            self.assertEqual(margins, sorted(margins, reverse=True))
            wrong += not all(margins)
        self.assertGreater(wrong, 100)


if __name__ == "__main__":
    unittest.main()
