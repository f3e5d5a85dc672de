"""tight: of the pieces at least so wide and so high the lowest, of these the narrowest, of these the first."""

import random
import unittest

import reference
from glasssheets.layouts import tight

MOST = 4294967295


class TightTest(unittest.TestCase):
    def assert_tight(self, width, height, pieces, due):
        """Pieces are told by their width and height; due is the piece's number."""
        widths, heights = [piece[0] for piece in pieces], [piece[1] for piece in pieces]
        self.assertEqual(tight(width, height, widths, heights), [0, due])


class NoPiece(TightTest):
    def test_no_pieces_at_all(self):
        self.assert_tight(10, 20, [], 0)
        self.assert_tight(0, 0, [], 0)
        self.assert_tight(MOST, MOST, [], 0)

    def test_none_wide_enough(self):
        self.assert_tight(10, 20, [(9, 20)], 1)
        self.assert_tight(10, 20, [(9, 50), (0, 90), (5, 20)], 3)

    def test_none_high_enough(self):
        self.assert_tight(10, 20, [(10, 19)], 1)
        self.assert_tight(10, 20, [(50, 19), (90, 0), (10, 5)], 3)

    def test_none_both(self):
        self.assert_tight(10, 20, [(9, 90), (90, 19)], 2)
        self.assert_tight(10, 20, [(9, 90), (90, 19), (9, 20), (10, 19)], 4)

    def test_pieces_are_not_turned(self):
        self.assert_tight(10, 20, [(20, 10)], 1)
        self.assert_tight(20, 10, [(10, 20)], 1)
        self.assert_tight(10, 20, [(20, 10), (10, 20)], 1)


class OnePiece(TightTest):
    def test_just_as_wide_and_high(self):
        self.assert_tight(10, 20, [(10, 20)], 0)

    def test_one_too_little_of_each(self):
        self.assert_tight(10, 20, [(9, 20)], 1)
        self.assert_tight(10, 20, [(10, 19)], 1)
        self.assert_tight(10, 20, [(9, 19)], 1)

    def test_one_more_of_each(self):
        for piece in ((11, 20), (10, 21), (11, 21), (500, 20), (10, 500)):
            self.assert_tight(10, 20, [piece], 0)
            self.assert_tight(10, 20, [(9, 20), (10, 19), piece, (9, 21)], 2)


class WhichPiece(TightTest):
    def test_least_height_before_least_width(self):
        self.assert_tight(10, 20, [(10, 22), (90, 21)], 1)
        self.assert_tight(10, 20, [(90, 21), (10, 22)], 0)
        # The lower has the greater width, area and sum.
        self.assert_tight(10, 20, [(10, 22), (MOST, 21), (11, 23)], 1)

    def test_of_one_height_the_least_width(self):
        self.assert_tight(10, 20, [(30, 25), (12, 25), (13, 25)], 1)
        self.assert_tight(10, 20, [(12, 25), (30, 25), (11, 26)], 0)
        self.assert_tight(10, 20, [(13, 25), (30, 25), (12, 25)], 2)

    def test_of_these_the_least_number(self):
        self.assert_tight(10, 20, [(12, 25), (12, 25)], 0)
        self.assert_tight(10, 20, [(12, 26), (12, 25), (13, 25), (12, 25), (12, 25)], 1)

    def test_pieces_too_small_do_not_count(self):
        self.assert_tight(10, 20, [(9, 20), (12, 25), (10, 19), (9, 19), (11, 25)], 4)
        self.assert_tight(10, 20, [(9, 20), (9, 20), (40, 50), (10, 19)], 2)

    def test_first_middle_and_last(self):
        for due in range(5):
            self.assert_tight(10, 20, [(10 + abs(k - due), 20 + abs(k - due)) for k in range(5)], due)
            self.assert_tight(10, 20, [(10, 20 + abs(k - due)) for k in range(5)], due)
            self.assert_tight(10, 20, [(10 + abs(k - due), 20) for k in range(5)], due)


class HowMany(TightTest):
    def test_64_pieces(self):
        self.assert_tight(10, 20, [(10, 20)] * 64, 0)
        self.assert_tight(10, 20, [(9, 20)] * 63 + [(10, 20)], 63)
        self.assert_tight(10, 20, [(10, 19)] * 64, 64)
        self.assert_tight(10, 20, [(10 + k, 84 - k) for k in range(64)], 63)

    def test_63_pieces(self):
        self.assert_tight(10, 20, [(9, 20)] * 63, 63)

    def test_more_than_64(self):
        for many in (65, 66, 80):
            self.assertEqual(tight(10, 20, [10] * many, [20] * many), [-1])
            self.assertEqual(tight(10, 20, [9] * many, [19] * many), [-1])

    def test_one_height_more_and_one_less_than_widths(self):
        for many in (1, 2, 5, 63, 64, 65, 66, 79):
            self.assertEqual(tight(10, 20, [10] * many, [20] * (many + 1)), [-1])
            self.assertEqual(tight(10, 20, [10] * many, [20] * (many - 1)), [-1])
        self.assertEqual(tight(10, 20, [], [20]), [-1])
        self.assertEqual(tight(10, 20, [10], []), [-1])

    def test_many_more_and_many_less(self):
        for widths, heights in ((0, 80), (80, 0), (64, 80), (80, 64), (1, 64), (64, 1), (65, 80), (80, 65)):
            self.assertEqual(tight(10, 20, [10] * widths, [20] * heights), [-1])

    def test_refused_whatever_is_asked(self):
        for width, height in ((0, 0), (0, MOST), (MOST, 0), (MOST, MOST)):
            self.assertEqual(tight(width, height, [10], [20, 20]), [-1])
            self.assertEqual(tight(width, height, [10] * 65, [20] * 65), [-1])


class GreatAndSmall(TightTest):
    def test_greatest_numbers(self):
        self.assert_tight(MOST, MOST, [(MOST, MOST - 1), (MOST - 1, MOST), (MOST, MOST), (MOST, MOST)], 2)
        self.assert_tight(MOST, MOST, [(MOST, MOST - 1), (MOST - 1, MOST)], 2)
        self.assert_tight(MOST - 1, MOST - 1, [(MOST, MOST), (MOST, MOST - 1), (MOST - 1, MOST - 1)], 2)
        self.assert_tight(1, 1, [(MOST, MOST), (MOST - 1, MOST)], 1)

    def test_width_and_height_of_0(self):
        self.assert_tight(0, 0, [(0, 0)], 0)
        self.assert_tight(0, 0, [(5, 1), (7, 0), (6, 0)], 2)
        self.assert_tight(0, 0, [(1, 0), (0, 1), (0, 0)], 2)
        self.assert_tight(0, 20, [(0, 19), (9, 20), (0, 20)], 2)
        self.assert_tight(10, 0, [(9, 0), (11, 0), (10, 0)], 2)
        self.assert_tight(1, 1, [(0, 1), (1, 0), (0, 0)], 3)


class ByChance(unittest.TestCase):
    def test_beside_the_reference(self):
        source = random.Random(40)
        refused = none = some = 0
        for _ in range(5000):
            many = source.choice([0, 1, 2, 3, 8, 63, 64, 65, 80])
            others = many if source.randrange(8) else max(0, min(80, many + source.choice([-1, 1, 7])))
            most = source.choice([2, 4, 10, 1000, MOST])
            widths = [source.randrange(most + 1) for _ in range(many)]
            heights = [source.randrange(most + 1) for _ in range(others)]
            width, height = source.randrange(most + 1), source.randrange(most + 1)
            due = reference.tight(width, height, widths, heights)
            with self.subTest(width=width, height=height, widths=widths, heights=heights):
                self.assertEqual(tight(width, height, widths, heights), due)
            refused += due == [-1]
            none += due == [0, many]
            some += due[0] == 0 and due[1] < many
        # Chance must have come by enough of each.
        self.assertGreater(min(refused, none, some), 500)

    def test_by_what_the_words_say_of_it(self):
        source = random.Random(41)
        for _ in range(2000):
            pieces = [(source.randrange(6), source.randrange(6)) for _ in range(source.randrange(12))]
            width, height = source.randrange(7), source.randrange(7)
            zero, k = tight(width, height, [piece[0] for piece in pieces], [piece[1] for piece in pieces])
            enough = [m for m, (wide, high) in enumerate(pieces) if wide >= width and high >= height]
            self.assertEqual(zero, 0)
            if not enough:
                self.assertEqual(k, len(pieces))
                continue
            self.assertIn(k, enough)
            for m in enough:
                self.assertLessEqual((pieces[k][1], pieces[k][0], k), (pieces[m][1], pieces[m][0], m))


if __name__ == "__main__":
    unittest.main()
