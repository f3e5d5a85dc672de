"""Turns, points on lines, outlines and corners, and blanks of panes of odd shapes."""

import unittest

from build import in_order, pack, pack_places, run_cartoon
from glasssheets.cartoons import read_cartoon
from glasssheets.layouts import blank
from glasssheets.points import is_on, turn

FRAME = [(0, 0), (40, 0), (40, 40), (0, 40)]


def ring(points):
    return list(zip(points, points[1:] + points[:1]))


def corners(data):
    cartoon = read_cartoon(data)
    return [pane.corners for pane in cartoon.panes]


class Points(unittest.TestCase):
    def test_turn(self):
        self.assertEqual(turn((0, 0), (4, 0), (4, 3)), 12)
        self.assertEqual(turn((0, 0), (4, 0), (4, -3)), -12)
        self.assertEqual(turn((0, 0), (4, 2), (6, 3)), 0)
        self.assertEqual(turn((0, 0), (4, 2), (2, 1)), 0)

    def test_on_a_line(self):
        for point in ((0, 0), (6, 3), (2, 1), (4, 2)):
            self.assertTrue(is_on(point, (0, 0), (6, 3)))
            self.assertTrue(is_on(point, (6, 3), (0, 0)))
        for point in ((8, 4), (3, 1), (3, 2), (0, 3), (6, 0)):
            self.assertFalse(is_on(point, (0, 0), (6, 3)))

    def test_on_upright_and_level_lines(self):
        self.assertTrue(is_on((5, 3), (5, 0), (5, 9)))
        self.assertFalse(is_on((5, 10), (5, 0), (5, 9)))
        self.assertTrue(is_on((3, 5), (0, 5), (9, 5)))
        self.assertFalse(is_on((10, 5), (0, 5), (9, 5)))


class Corners(unittest.TestCase):
    def test_run(self):
        self.assertEqual(corners(run_cartoon()), [
            [(0, 0), (30, 0), (10, 10)],
            [(0, 0), (10, 10), (0, 20)],
            [(30, 0), (30, 20), (0, 20), (10, 10)],
        ])

    def test_points_at_which_it_goes_straight_on_are_corners(self):
        outline = [(0, 0), (10, 0), (40, 0), (40, 40), (20, 40), (0, 40), (0, 7)]
        data = pack_places(40, 40, outline, ring(outline), [(5, 5)])
        self.assertEqual(corners(data), [outline])

    def test_straight_on_within_the_frame(self):
        middle = [(0, 20), (10, 20), (30, 20), (40, 20)]
        points = FRAME + middle
        segments = ring([(0, 0), (40, 0), (40, 20), (40, 40), (0, 40), (0, 20)]) + list(zip(middle, middle[1:]))
        data = pack_places(40, 40, points, segments, [(5, 5), (5, 30)])
        self.assertEqual(corners(data), [
            [(0, 0), (40, 0), (40, 20), (30, 20), (10, 20), (0, 20)],
            [(0, 20), (10, 20), (30, 20), (40, 20), (40, 40), (0, 40)],
        ])

    def test_panes_go_by_marks_whatever_pane_lies_lower(self):
        # The mark of the left pane lies above that of the right one.
        points = FRAME + [(20, 0), (20, 40)]
        segments = ring([(0, 0), (20, 0), (40, 0), (40, 40), (20, 40), (0, 40)]) + [((20, 0), (20, 40))]
        data = pack_places(40, 40, points, segments, [(5, 30), (30, 5)])
        self.assertEqual(corners(data), [
            [(20, 0), (40, 0), (40, 40), (20, 40)],
            [(0, 0), (20, 0), (20, 40), (0, 40)],
        ])


class OddShapes(unittest.TestCase):
    def wheel(self, spokes):
        """A hub joined with points all round the frame, on which many lines meet at one point."""
        rim = [(4 * k, 0) for k in range(10)] + [(40, 4 * k) for k in range(10)]
        rim += [(40 - 4 * k, 40) for k in range(10)] + [(0, 40 - 4 * k) for k in range(10)]
        hub = (20, 20)
        segments = ring(rim) + [(hub, rim[k]) for k in spokes]
        return rim, hub, segments

    def test_wheel(self):
        rim, hub, segments = self.wheel(range(40))
        marks = []
        for p, q in ring(rim):
            marks.append(((p[0] + q[0] + 2 * hub[0]) // 4, (p[1] + q[1] + 2 * hub[1]) // 4))
        data = pack_places(40, 40, rim + [hub], segments, marks)
        sizes = [blank(0, i, data) for i in range(40)]
        self.assertEqual(blank(0, 40, data), [-2])
        for (x, y), size in zip(in_order(marks), sizes):
            triangle = [t for t in zip(rim, rim[1:] + rim[:1])
                        if ((t[0][0] + t[1][0] + 40) // 4, (t[0][1] + t[1][1] + 40) // 4) == (x, y)][0] + (hub,)
            xs, ys = zip(*triangle)
            self.assertEqual(size, [0, max(xs) - min(xs), max(ys) - min(ys)])

    def test_wheel_with_two_spokes_in_a_row(self):
        rim, hub, segments = self.wheel((0, 20))
        data = pack_places(40, 40, rim + [hub], segments, [(30, 5), (5, 30)])
        self.assertEqual([blank(3, i, data) for i in range(3)], [[0, 46, 46], [0, 46, 46], [-2]])

    def test_pane_round_a_notch(self):
        # A triangle that stands on the lower edge; the other pane goes round it.
        notch = [(10, 0), (30, 0), (20, 30)]
        points = FRAME + notch
        segments = ring([(0, 0), (10, 0), (30, 0), (40, 0), (40, 40), (0, 40)])
        segments += [((10, 0), (20, 30)), ((20, 30), (30, 0))]
        for around in ((2, 29), (38, 29), (20, 35)):
            data = pack_places(40, 40, points, segments, [(20, 20), around])
            self.assertEqual([blank(0, i, data) for i in range(2)], [[0, 20, 30], [0, 40, 40]])

    def test_mark_at_the_height_of_corners(self):
        # Level with the mark lie a corner at which the outline turns back, one at which it goes on, a level line.
        inner = [(10, 10), (14, 20), (20, 10), (24, 10), (30, 20), (34, 20)]
        points = FRAME + inner + [(0, 10), (40, 20)]
        way = [(0, 10)] + inner + [(40, 20)]
        segments = ring([(0, 0), (40, 0), (40, 20), (40, 40), (0, 40), (0, 10)]) + list(zip(way, way[1:]))
        for below, above in (((5, 5), (5, 20)), ((14, 10), (5, 20)), ((35, 10), (22, 20)), ((35, 10), (14, 21))):
            data = pack_places(40, 40, points, segments, [below, above])
            self.assertEqual([blank(0, i, data) for i in range(2)], [[0, 40, 20], [0, 40, 30]])

    def test_marks_as_near_to_a_line_as_may_be(self):
        points = [(0, 0), (20, 0), (0, 19), (20, 19)]
        rising = pack(20, 19, points, [(0, 1), (0, 2), (0, 3), (1, 3), (2, 3)], [(1, 1), (19, 18)])
        falling = pack(20, 19, points, [(0, 1), (0, 2), (1, 2), (1, 3), (2, 3)], [(19, 1), (1, 18)])
        self.assertEqual(turn((0, 0), (20, 19), (1, 1)), 1)
        for data in (rising, falling):
            self.assertEqual([blank(0, i, data) for i in range(3)], [[0, 20, 19], [0, 20, 19], [-2]])

    def test_lines_that_part_by_as_little_as_may_be(self):
        # From (9, 9) over (10, 10) the way to (12, 13) turns hardly to the left, that to (7, 6) almost back.
        ways = [[(10, 10), (9, 9), (0, 20)], [(10, 10), (12, 13), (20, 20)], [(10, 10), (7, 6), (0, 0)]]
        points = set(sum(ways, [(20, 0)]))
        segments = ring([(0, 0), (20, 0), (20, 20), (0, 20)])
        for way in ways:
            segments += list(zip(way, way[1:]))
        data = pack_places(20, 20, points, segments, [(15, 5), (2, 10), (10, 18)])
        self.assertEqual(corners(data), [
            [(0, 0), (20, 0), (20, 20), (12, 13), (10, 10), (7, 6)],
            [(0, 0), (7, 6), (10, 10), (9, 9), (0, 20)],
            [(9, 9), (10, 10), (12, 13), (20, 20), (0, 20)],
        ])
        self.assertEqual([blank(0, i, data) for i in range(3)], [[0, 20, 20], [0, 10, 20], [0, 20, 11]])

    def test_the_same_turned_by_a_half(self):
        # From (8, 7) over (10, 10): (11, 11) comes first, and (13, 14), hardly more to the left, behind it.
        ways = [[(10, 10), (11, 11), (20, 0)], [(10, 10), (8, 7), (0, 0)], [(10, 10), (13, 14), (20, 20)]]
        points = set(sum(ways, [(0, 20)]))
        segments = ring([(0, 0), (20, 0), (20, 20), (0, 20)])
        for way in ways:
            segments += list(zip(way, way[1:]))
        data = pack_places(20, 20, points, segments, [(5, 15), (18, 10), (10, 2)])
        self.assertEqual(corners(data), [
            [(0, 0), (20, 0), (11, 11), (10, 10), (8, 7)],
            [(20, 0), (20, 20), (13, 14), (10, 10), (11, 11)],
            [(0, 0), (8, 7), (10, 10), (13, 14), (20, 20), (0, 20)],
        ])
        self.assertEqual([blank(0, i, data) for i in range(3)], [[0, 20, 11], [0, 10, 20], [0, 20, 20]])

    def test_widest_cartoon(self):
        most = 1048575
        points = [(0, 0), (most, 0), (0, most), (most, most)]
        data = pack(most, most, points, [(0, 1), (0, 2), (0, 3), (1, 3), (2, 3)],
                    [(most - 1, most - 2), (most - 2, most - 1)])
        self.assertEqual(blank(65535, 0, data), [0, most + 131070, most + 131070])
        self.assertEqual(blank(0, 1, data), [0, most, most])


if __name__ == "__main__":
    unittest.main()
