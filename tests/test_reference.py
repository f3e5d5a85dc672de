"""blank and judge beside a second reading of the document, over many inputs made by chance from fixed seeds."""

import random
import unittest

from chance import chance_cartoon, judged_rows
from glasssheets.layouts import blank, judge
from reference import judge_bytes


class CartoonsByChance(unittest.TestCase):
    def test_cartoons(self):
        source = random.Random(20)
        rules = set()
        for _ in range(600):
            data = chance_cartoon(source)
            rule, place, panes = judge_bytes(data)
            rules.add(rule)
            with self.subTest(data=data):
                if rule:
                    self.assertEqual(blank(0, 0, data), [-5, rule, place])
                    continue
                margin = source.randrange(4)
                for i, (glass, width, height) in enumerate(panes):
                    self.assertEqual(blank(margin, i, data), [0, width + 2 * margin, height + 2 * margin])
                self.assertEqual(blank(margin, len(panes), data), [-2])
        # Chance must have come by right cartoons and by the rules that are hard to break by hand.
        self.assertLessEqual({0, 4, 5, 6, 7, 8, 10, 11, 12, 13}, rules)


class RowsByChance(unittest.TestCase):
    def test_rows(self):
        source = random.Random(21)
        rules = {}
        for data, panes, margin, sheets, row, due in judged_rows(source):
            rules[tuple(due[:2])] = True
            with self.subTest(data=data, margin=margin, sheets=sheets, row=row):
                self.assertEqual(judge(margin, data, sheets, row), due)
        self.assertEqual(sorted(rules), [(0,), (0, 1), (0, 2), (0, 3), (0, 4), (0, 5), (0, 6), (0, 7)])


if __name__ == "__main__":
    unittest.main()
