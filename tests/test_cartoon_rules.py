"""The rules 1 to 13 of a cartoon: each way to break one, its place, and which of two comes first."""

import itertools
import unittest

from build import FRAME_LINES, FRAME_POINTS, RUN_LINES, RUN_MARKS, RUN_POINTS
from build import frame_cartoon, in_order, pack, put, run_cartoon
from glasssheets.layouts import blank, judge
from reference import judge_bytes

LINES_START = 20 + 8 * 5
MARKS_START = LINES_START + 4 * 7
RUN_SIZE = MARKS_START + 12 * 3


class RuleTest(unittest.TestCase):
    def assert_broken(self, data, rule, place):
        self.assertEqual(blank(0, 0, data), [-5, rule, place])
        self.assertEqual(judge(0, data, [], []), [-5, rule, place])

    def assert_right(self, data):
        self.assertEqual(blank(0, 0, data)[0], 0)

    def run_with(self, points=None, lines=None, marks=None):
        return pack(30, 20, points or RUN_POINTS, lines or RUN_LINES, marks or RUN_MARKS)


class Rule1(RuleTest):
    def test_fewer_than_20_bytes(self):
        for many in (0, 1, 4, 19):
            self.assert_broken(run_cartoon()[:many], 1, many)
            self.assert_broken([0] * many, 1, many)

    def test_twenty_bytes_are_enough(self):
        self.assert_broken(run_cartoon()[:20], 3, 20)
        self.assert_broken([0] * 20, 1, 0)

    def test_each_byte_of_the_sign(self):
        for place in range(4):
            for byte in (0, 255, run_cartoon()[place] ^ 32):
                self.assert_broken(put(run_cartoon(), place, 1, byte), 1, 0)


class Rule2(RuleTest):
    def assert_bounds(self, place, length, least, greatest):
        """At a bound another rule is broken, just beyond it this one."""
        for number in (least, greatest):
            self.assertNotEqual(blank(0, 0, put(run_cartoon(), place, length, number))[1:], [2, place])
        for number in (least - 1, greatest + 1):
            if number >= 0:
                self.assert_broken(put(run_cartoon(), place, length, number), 2, place)

    def test_width_and_height(self):
        self.assert_bounds(4, 4, 16, 1048575)
        self.assert_bounds(8, 4, 16, 1048575)
        for number in (0, 4294967295, 256 ** 3):
            self.assert_broken(put(run_cartoon(), 4, 4, number), 2, 4)
            self.assert_broken(put(run_cartoon(), 8, 4, number), 2, 8)

    def test_every_byte_of_width_and_height_counts(self):
        for place, number in ((4, 30), (8, 20)):
            for byte in (2, 3):
                self.assert_broken(put(run_cartoon(), place, 4, number + 16 * 256 ** byte), 2, place)

    def test_least_and_widest_frames(self):
        for width, height in ((16, 16), (1048575, 16), (16, 1048575)):
            points = [(0, 0), (width, 0), (0, height), (width, height)]
            data = pack(width, height, points, FRAME_LINES, [(1, 1)])
            self.assertEqual(blank(0, 0, data), [0, width, height])

    def test_how_many_points(self):
        self.assert_bounds(12, 2, 4, 4096)
        self.assert_broken(put(run_cartoon(), 12, 2, 0), 2, 12)

    def test_how_many_lines(self):
        self.assert_bounds(14, 2, 4, 8192)
        self.assert_broken(put(run_cartoon(), 14, 2, 65535), 2, 14)

    def test_how_many_marks(self):
        self.assert_bounds(16, 2, 1, 2048)
        self.assert_broken(pack(20, 16, FRAME_POINTS, FRAME_LINES, []), 2, 16)

    def test_bytes_18_and_19(self):
        for place in (18, 19):
            for byte in (1, 255):
                self.assert_broken(put(run_cartoon(), place, 1, byte), 2, 18)

    def test_of_two_the_first_place(self):
        wrong = {4: 4, 8: 4, 12: 2, 14: 2, 16: 2, 18: 2}
        for first, second in itertools.combinations(sorted(wrong), 2):
            data = put(run_cartoon(), first, wrong[first], 65535 if wrong[first] == 2 else 1)
            data = put(data, second, wrong[second], 65535 if wrong[second] == 2 else 1)
            self.assert_broken(data, 2, first)


class Rule3(RuleTest):
    def test_too_few_and_too_many(self):
        for data in (run_cartoon()[:-1], run_cartoon()[:20], run_cartoon() + [0], run_cartoon() + [0] * 12):
            self.assert_broken(data, 3, 20)

    def test_other_numbers_told(self):
        for place in (12, 14, 16):
            told = run_cartoon()[place]
            self.assert_broken(put(run_cartoon(), place, 1, told + 1), 3, 20)
        self.assert_broken(put(run_cartoon(), 16, 1, 2), 3, 20)

    def test_8192_lines_are_counted(self):
        data = put(run_cartoon(), 14, 2, 8192)[:MARKS_START] + [0] * (4 * (8192 - 7)) + run_cartoon()[MARKS_START:]
        self.assert_broken(data, 5, MARKS_START)
        self.assert_broken(data + [0], 3, 20)


class Rule4(RuleTest):
    def test_outside_the_frame(self):
        self.assert_broken(self.run_with(RUN_POINTS[:4] + [(31, 20)]), 4, 20 + 32)
        self.assert_broken(self.run_with(RUN_POINTS[:4] + [(30, 21)]), 4, 20 + 32)
        self.assert_broken(self.run_with([(0, 0), (31, 0)] + RUN_POINTS[2:]), 4, 20 + 8)
        self.assert_broken(self.run_with([(4294967295, 0)] + RUN_POINTS[1:]), 4, 20)
        self.assert_broken(self.run_with(RUN_POINTS[:4] + [(30, 4294967295)]), 4, 20 + 32)
        for byte in (1, 2, 3):
            self.assert_broken(self.run_with(RUN_POINTS[:4] + [(30 + 256 ** byte, 20)]), 4, 20 + 32)
            self.assert_broken(self.run_with(RUN_POINTS[:4] + [(30, 20 + 256 ** byte)]), 4, 20 + 32)

    def test_not_behind_the_point_before(self):
        same = [(0, 0), (30, 0), (30, 0), (0, 20), (30, 20)]
        lower = [(0, 0), (30, 0), (0, 20), (10, 10), (30, 20)]
        of_one_y = [(30, 0), (0, 0), (10, 10), (0, 20), (30, 20)]
        self.assert_broken(self.run_with(same), 4, 20 + 16)
        self.assert_broken(self.run_with(lower), 4, 20 + 24)
        self.assert_broken(self.run_with(of_one_y), 4, 20 + 8)

    def test_of_two_the_least_place(self):
        self.assert_broken(self.run_with([(0, 0), (31, 0), (10, 10), (10, 10), (30, 20)]), 4, 20 + 8)
        self.assert_broken(self.run_with([(0, 0), (0, 0), (31, 10), (0, 20), (30, 20)]), 4, 20 + 8)


class Rule5(RuleTest):
    def with_line(self, k, line):
        return self.run_with(lines=RUN_LINES[:k] + [line] + RUN_LINES[k + 1:])

    def test_numbers_that_may_not_be(self):
        for line in ((3, 3), (4, 3), (3, 5), (3, 65535), (65535, 65535)):
            self.assert_broken(self.with_line(6, line), 5, LINES_START + 24)
        self.assert_broken(self.with_line(0, (0, 0)), 5, LINES_START)
        self.assert_broken(self.with_line(0, (1, 0)), 5, LINES_START)

    def test_not_behind_the_line_before(self):
        self.assert_broken(self.with_line(1, (0, 1)), 5, LINES_START + 4)
        self.assert_broken(self.with_line(3, (0, 2)), 5, LINES_START + 12)
        self.assert_broken(self.with_line(4, (0, 4)), 5, LINES_START + 16)

    def test_of_two_the_least_place(self):
        lines = list(RUN_LINES)
        lines[2], lines[5] = (0, 5), (2, 2)
        self.assert_broken(self.run_with(lines=lines), 5, LINES_START + 8)


class Rule6(RuleTest):
    def test_corner_missing(self):
        for k in range(4):
            points = in_order(FRAME_POINTS[:k] + FRAME_POINTS[k + 1:] + [(5, 5), (6, 6)])
            lines = [(0, 1), (0, 2), (1, 2), (1, 3), (2, 4), (3, 4)]
            self.assert_broken(pack(20, 16, points, lines, [(10, 8)]), 6, 20)

    def test_edge_missing(self):
        for k in range(4):
            lines = sorted(FRAME_LINES[:k] + FRAME_LINES[k + 1:] + [(0, 3)])
            self.assert_broken(pack(20, 16, FRAME_POINTS, lines, [(10, 8)]), 6, 20)

    def test_edge_drawn_past_a_point_on_it(self):
        for point in ((7, 0), (7, 16), (0, 7), (20, 7)):
            points = in_order(FRAME_POINTS + [point])
            corners = [points.index(corner) for corner in FRAME_POINTS]
            lines = sorted((corners[p], corners[q]) for p, q in FRAME_LINES)
            self.assert_broken(pack(20, 16, points, lines, [(10, 8)]), 6, 20)

    def test_edge_in_pieces(self):
        points = [(0, 0), (3, 0), (7, 0), (20, 0), (0, 16), (20, 16)]
        lines = [(0, 1), (0, 4), (1, 2), (2, 3), (3, 5), (4, 5)]
        self.assert_right(pack(20, 16, points, lines, [(10, 8)]))
        lines = [(0, 1), (0, 4), (1, 3), (2, 3), (3, 5), (4, 5)]
        self.assert_broken(pack(20, 16, points, lines, [(10, 8)]), 6, 20)


class Rule7(RuleTest):
    """In a frame of 20 by 16; more are points within it, segments between places."""

    def build(self, more, segments):
        points = in_order(FRAME_POINTS + more)
        numbers = {point: k for k, point in enumerate(points)}
        frame = [(FRAME_POINTS[p], FRAME_POINTS[q]) for p, q in FRAME_LINES]
        self.lines = sorted(tuple(sorted((numbers[p], numbers[q]))) for p, q in frame + segments)
        self.numbers = numbers
        self.lines_start = 20 + 8 * len(points)
        return pack(20, 16, points, self.lines, [(1, 15)])

    def assert_line_broken(self, more, segments, broken):
        data = self.build(more, segments)
        line = tuple(sorted((self.numbers[broken[0]], self.numbers[broken[1]])))
        self.assert_broken(data, 7, self.lines_start + 4 * self.lines.index(line))

    def test_point_on_a_line(self):
        diagonal = ((0, 0), (20, 16))
        self.assert_line_broken([(5, 4)], [diagonal], diagonal)
        self.assert_line_broken([(5, 4)], [diagonal, ((0, 0), (5, 4))], diagonal)
        self.assert_line_broken([(5, 4)], [diagonal, ((5, 4), (20, 16))], diagonal)

    def test_point_on_a_level_and_on_an_upright_line(self):
        level = ((3, 8), (17, 8))
        upright = ((10, 2), (10, 13))
        self.assert_line_broken([(3, 8), (9, 8), (17, 8)], [level], level)
        self.assert_line_broken([(10, 2), (10, 9), (10, 13)], [upright], upright)

    def test_line_that_slopes_to_the_left(self):
        other_diagonal = ((20, 0), (0, 16))
        self.assert_line_broken([(15, 4)], [other_diagonal], other_diagonal)

    def test_lines_upon_one_another(self):
        places = [(2, 8), (6, 8), (10, 8), (14, 8)]
        first, second, third, fourth = places
        self.assert_line_broken(places, [(first, third), (second, fourth)], (first, third))
        self.assert_line_broken(places, [(first, fourth), (second, third)], (first, fourth))
        self.assert_line_broken(places, [(second, third), (second, fourth)], (second, fourth))
        self.assert_line_broken(places, [(first, second), (second, third), (second, fourth)], (second, fourth))

    def test_end_of_a_later_line_on_a_line(self):
        long, touching = ((2, 2), (18, 10)), ((10, 6), (4, 14))
        self.assert_line_broken([(2, 2), (18, 10), (10, 6), (4, 14)], [long, touching], long)

    def test_end_of_an_earlier_line_on_a_line(self):
        long, touching = ((2, 2), (18, 10)), ((10, 6), (10, 1))
        self.assert_line_broken([(2, 2), (18, 10), (10, 6), (10, 1)], [long, touching], long)

    def test_crossing_at_a_whole_point_and_at_none(self):
        self.assert_line_broken([(2, 2), (8, 8), (8, 2), (2, 8)], [((2, 2), (8, 8)), ((8, 2), (2, 8))],
                                ((8, 2), (2, 8)))
        self.assert_line_broken([(2, 2), (7, 9), (7, 2), (2, 9)], [((2, 2), (7, 9)), ((7, 2), (2, 9))],
                                ((7, 2), (2, 9)))

    def test_crossing_where_the_line_before_ends_lower(self):
        self.assert_line_broken([(2, 2), (8, 7), (8, 3), (2, 9)], [((2, 2), (8, 7)), ((8, 3), (2, 9))],
                                ((8, 3), (2, 9)))

    def test_crossing_as_small_as_may_be(self):
        for more in ([], [(4, 9)]):
            self.assert_line_broken([(5, 5), (6, 5), (5, 6), (6, 6)] + more,
                                    [((5, 5), (6, 6)), ((6, 5), (5, 6))], ((6, 5), (5, 6)))

    def test_both_diagonals(self):
        self.assert_line_broken([], [((0, 0), (20, 16)), ((20, 0), (0, 16))], ((20, 0), (0, 16)))

    def test_level_line_crossed_by_an_upright_one(self):
        self.assert_line_broken([(10, 2), (3, 8), (17, 8), (10, 14)], [((10, 2), (10, 14)), ((3, 8), (17, 8))],
                                ((3, 8), (17, 8)))

    def test_lines_that_only_would_cross_if_longer(self):
        data = self.build([(2, 2), (8, 8), (8, 3), (7, 5)], [((2, 2), (8, 8)), ((8, 3), (7, 5))])
        self.assertNotEqual(blank(0, 0, data)[1], 7)

    def test_lines_that_have_an_end_in_common(self):
        data = self.build([(2, 2), (8, 8), (8, 3), (2, 6)],
                          [((2, 2), (8, 8)), ((2, 2), (8, 3)), ((8, 3), (8, 8)), ((2, 6), (8, 8))])
        self.assertNotEqual(blank(0, 0, data)[1], 7)

    def test_of_two_the_least_place(self):
        more = [(2, 2), (8, 8), (8, 2), (2, 8), (12, 3), (15, 3), (18, 3)]
        tangle = [((2, 2), (8, 8)), ((8, 2), (2, 8))]
        self.assert_line_broken(more, tangle + [((12, 3), (18, 3))], ((8, 2), (2, 8)))
        more = [(12, 1), (15, 1), (18, 1)] + more[:4]
        self.assert_line_broken(more, tangle + [((12, 1), (18, 1))], ((12, 1), (18, 1)))


class Rules8To10(RuleTest):
    def build(self, more, segments):
        points = in_order(FRAME_POINTS + more)
        numbers = {point: k for k, point in enumerate(points)}
        frame = [(FRAME_POINTS[p], FRAME_POINTS[q]) for p, q in FRAME_LINES]
        lines = sorted(tuple(sorted((numbers[p], numbers[q]))) for p, q in frame + segments)
        self.place = {point: 20 + 8 * k for point, k in numbers.items()}
        return pack(20, 16, points, lines, [(1, 14)])

    def test_point_without_lines(self):
        data = self.build([(10, 8)], [])
        self.assert_broken(data, 8, self.place[(10, 8)])

    def test_point_with_one_line(self):
        data = self.build([(10, 8)], [((0, 0), (10, 8))])
        self.assert_broken(data, 8, self.place[(10, 8)])
        data = self.build([(10, 8), (10, 5)], [((10, 5), (10, 8))])
        self.assert_broken(data, 8, self.place[(10, 5)])

    def test_point_with_two_lines(self):
        data = self.build([(10, 8)], [((0, 0), (10, 8)), ((10, 8), (20, 16))])
        self.assertEqual(blank(0, 0, data), [-5, 13, len(data)])

    def test_points_without_a_way_to_point_0(self):
        ring = [((5, 5), (10, 5)), ((10, 5), (8, 9)), ((8, 9), (5, 5))]
        data = self.build([(5, 5), (10, 5), (8, 9)], ring)
        self.assert_broken(data, 9, self.place[(5, 5)])

    def test_of_two_rings_the_least_point(self):
        ring = [((5, 5), (10, 5)), ((10, 5), (8, 9)), ((8, 9), (5, 5))]
        lower = [((12, 2), (15, 2)), ((15, 2), (13, 4)), ((13, 4), (12, 2))]
        data = self.build([(5, 5), (10, 5), (8, 9), (12, 2), (15, 2), (13, 4)], ring + lower)
        self.assert_broken(data, 9, self.place[(12, 2)])

    def test_ring_that_hangs_at_one_point(self):
        for corner in FRAME_POINTS:
            data = self.build([(8, 7), (12, 9)], [(corner, (8, 7)), (corner, (12, 9)), ((8, 7), (12, 9))])
            self.assert_broken(data, 10, self.place[corner])

    def test_ring_that_hangs_by_one_line(self):
        ring = [((8, 7), (12, 7)), ((12, 7), (10, 10)), ((10, 10), (8, 7))]
        # Both ends of the line are such points; the corner (20, 16) has the greater number, (0, 0) the least.
        data = self.build([(8, 7), (12, 7), (10, 10)], ring + [((10, 10), (20, 16))])
        self.assert_broken(data, 10, self.place[(10, 10)])
        data = self.build([(8, 7), (12, 7), (10, 10)], ring + [((8, 7), (0, 0))])
        self.assert_broken(data, 10, 20)

    def test_ring_that_hangs_at_two_points(self):
        data = self.build([(8, 7), (12, 9)], [((0, 0), (8, 7)), ((20, 16), (12, 9)), ((8, 7), (12, 9))])
        self.assertEqual(blank(0, 0, data), [-5, 13, len(data)])


class Rule11(RuleTest):
    def with_marks(self, marks):
        return self.run_with(marks=marks)

    def test_not_within_the_frame(self):
        for x, y in ((0, 10), (30, 10), (15, 0), (15, 20), (31, 10), (15, 21), (0, 0), (30, 20), (4294967295, 1)):
            self.assert_broken(self.with_marks([(x, y)]), 11, MARKS_START)
        for byte in (1, 2, 3):
            self.assert_broken(self.with_marks([(15 + 256 ** byte, 2)]), 11, MARKS_START)
            self.assert_broken(self.with_marks([(15, 2 + 256 ** byte)]), 11, MARKS_START)

    def test_just_within_the_frame(self):
        for x, y in ((1, 10), (29, 10), (15, 1), (15, 19)):
            self.assert_broken(self.with_marks([(x, y)]), 13, MARKS_START + 12)

    def test_on_a_line_or_a_point(self):
        for x, y in ((5, 5), (20, 5), (9, 9), (5, 15), (10, 10)):
            self.assert_broken(self.with_marks([(x, y)]), 11, MARKS_START)

    def test_beside_a_line(self):
        for x, y in ((5, 4), (4, 5), (20, 4), (20, 6), (11, 11)):
            self.assert_broken(self.with_marks([(x, y)]), 13, MARKS_START + 12)

    def test_not_behind_the_mark_before(self):
        self.assert_broken(self.with_marks([RUN_MARKS[1], RUN_MARKS[0], RUN_MARKS[2]]), 11, MARKS_START + 12)
        self.assert_broken(self.with_marks([RUN_MARKS[0], RUN_MARKS[0], RUN_MARKS[2]]), 11, MARKS_START + 12)
        self.assert_broken(self.with_marks([(15, 2), (20, 10), (2, 10)]), 11, MARKS_START + 24)
        self.assert_right(self.with_marks([(15, 2), (2, 10), (20, 10)]))

    def test_of_two_the_least_place(self):
        self.assert_broken(self.with_marks([(15, 2), (5, 5), (0, 10)]), 11, MARKS_START + 12)
        self.assert_broken(self.with_marks([(15, 3), (15, 2), (5, 5)]), 11, MARKS_START + 12)


class Rules12And13(RuleTest):
    def test_two_marks_in_one_pane(self):
        self.assert_broken(self.run_with(marks=[(15, 2), (16, 2), (2, 10), (20, 15)]), 12, MARKS_START + 12)
        self.assert_broken(self.run_with(marks=[(15, 2), (2, 10), (20, 15), (25, 18)]), 12, MARKS_START + 36)
        self.assert_broken(self.run_with(marks=[(15, 2), (2, 10), (25, 10), (2, 19)]), 12, MARKS_START + 36)

    def test_of_two_the_least_place(self):
        self.assert_broken(self.run_with(marks=[(15, 2), (1, 9), (2, 10), (20, 15), (25, 18)]), 12, MARKS_START + 24)

    def test_two_marks_in_one_pane_while_another_has_none(self):
        self.assert_broken(self.run_with(marks=[(15, 2), (20, 14), (20, 15)]), 12, MARKS_START + 24)

    def test_pane_without_a_mark(self):
        for k in range(3):
            marks = RUN_MARKS[:k] + RUN_MARKS[k + 1:]
            self.assert_broken(self.run_with(marks=marks), 13, RUN_SIZE - 12)

    def test_pane_in_which_no_point_lies(self):
        # The triangle (0, 0), (20, 0), (10, 1) has whole points on its sides alone.
        points = [(0, 0), (20, 0), (10, 1), (0, 16), (20, 16)]
        lines = [(0, 1), (0, 2), (0, 3), (1, 2), (1, 4), (3, 4)]
        data = pack(20, 16, points, lines, [(10, 8)])
        self.assert_broken(data, 13, len(data))

    def test_one_mark_in_each(self):
        self.assert_right(run_cartoon())
        self.assert_right(frame_cartoon())


class OrderOfRules(RuleTest):
    """Cartoons that break just the rules they are asked to."""

    def build(self, rules):
        points = {(0, 0), (60, 0), (0, 60), (60, 60), (30, 0), (30, 60)}
        segments = [((0, 0), (30, 0)), ((30, 0), (60, 0)), ((0, 60), (30, 60)), ((30, 60), (60, 60)),
                    ((60, 0), (60, 60)), ((30, 0), (30, 60))]
        marks = [(20, 55), (40, 55)]
        if 6 not in rules:
            segments.append(((0, 0), (0, 60)))
        if 7 in rules:
            segments += [((0, 0), (30, 60)), ((30, 0), (0, 60))]
        if 8 in rules:
            points.add((50, 50))
        if 9 in rules:
            segments += [((40, 10), (50, 10)), ((50, 10), (45, 15)), ((45, 15), (40, 10))]
        if 10 in rules:
            segments += [((60, 60), (55, 40)), ((55, 40), (55, 45)), ((55, 45), (60, 60))]
        if 11 in rules:
            marks.append((0, 58))
        if 12 in rules:
            marks.append((41, 56))
        if 13 in rules:
            marks.remove((20, 55))
        for segment in segments:
            points.update(segment)
        points = in_order(points)
        lines = sorted(tuple(sorted(points.index(place) for place in segment)) for segment in segments)
        if 4 in rules:
            points[-1] = (61, 60)
        if 5 in rules:
            lines.append((0, 1))
        data = pack(60, 60, points, lines, in_order(marks))
        if 3 in rules:
            data.append(7)
        if 2 in rules:
            data[19] = 1
        if 1 in rules:
            data[3] = 0
        return data

    def test_nothing_broken(self):
        self.assertEqual(blank(2, 0, self.build(())), [0, 34, 64])

    def test_each_by_itself_and_any_two(self):
        rules = range(1, 14)
        for first, second in itertools.combinations_with_replacement(rules, 2):
            with self.subTest(first=first, second=second):
                data = self.build((first, second))
                rule, place, panes = judge_bytes(data)
                self.assertEqual(rule, first)
                self.assert_broken(data, first, place)

    def test_all_from_one_on(self):
        for first in range(1, 14):
            self.assertEqual(blank(0, 0, self.build(range(first, 14)))[1], first)


if __name__ == "__main__":
    unittest.main()
