"""Panes laid by rule: their order, which shelf or sheet each goes on and which way, and the form of the layout."""

import unittest

from build import boxes_cartoon, frame_cartoon, rest_size, row_cartoon, run_cartoon
from glasssheets.layouts import judge, lay


class LayingTest(unittest.TestCase):
    """Blanks are told by their width and height, all of glass 1 unless told otherwise. The pane around the boxes, which
    is of a glass of its own, has a sheet of its own behind the others."""

    def told(self, boxes, sheets, glasses, margin):
        cartoon = boxes_cartoon(boxes, glasses or [1] * len(boxes))
        width, height = rest_size(boxes)
        sheets = sheets + [9, width + 2 * margin, height + 2 * margin, 0]
        told = lay(margin, cartoon, sheets)
        if told[0] == 0:
            self.assertEqual(judge(margin, cartoon, sheets, told[2:]), [0])
        return told

    def assert_laid(self, boxes, sheets, row, glasses=None, margin=0):
        row = row + [1, len(boxes), 0]
        self.assertEqual(self.told(boxes, sheets, glasses, margin), [0, len(row)] + row)

    def assert_unlaid(self, boxes, sheets, pane, glasses=None, margin=0):
        self.assertEqual(self.told(boxes, sheets, glasses, margin), [-3, pane])


class OrderOfPanes(LayingTest):
    def test_higher_first(self):
        self.assert_laid([(5, 4), (3, 8)], [1, 20, 8, 0], [2, 3, 1, 1, 0, 2, 5, 3, 4, 1, 0, 0, 0, 0])

    def test_of_one_height_wider_first(self):
        self.assert_laid([(3, 6), (5, 6)], [1, 20, 6, 0], [2, 5, 1, 1, 0, 2, 3, 1, 0, 0, 0])

    def test_same_blank_by_number(self):
        self.assert_laid([(4, 6)] * 3, [1, 12, 6, 0], [2, 4, 1, 0, 0, 2, 4, 1, 1, 0, 1, 2, 0])
        self.assert_laid([(4, 6)] * 2, [1, 4, 6, 0] * 2, [1, 0, 0, 1, 1, 0])

    def test_height_counts_before_width_also_where_blanks_may_be_turned(self):
        self.assert_laid([(10, 4), (2, 6)], [1, 30, 20, 1],
                         [3, 6, 2, 2, 1, 1, 0, 2, 10, 3, 4, 1, 0, 0, 0, 0, 0])

    def test_heights_widths_and_numbers(self):
        self.assert_laid(
            [(3, 5), (4, 5), (2, 7), (4, 5), (9, 2)], [1, 22, 7, 0],
            [2, 2, 1, 2, 0, 2, 4, 3, 5, 1, 1, 0, 0, 2, 4, 3, 5, 1, 3, 0, 0, 2, 3, 3, 5, 1, 0, 0, 0, 3, 2, 1, 4, 0, 0],
        )

    def test_numbers_of_two_digits(self):
        row = []
        for pane in range(11):
            row += [2, 3, 1, pane, 0]
        self.assert_laid([(3, 5)] * 12, [1, 36, 5, 0], row + [1, 11, 0])

    def test_margin_changes_no_order(self):
        self.assert_laid([(5, 4), (3, 8)], [1, 20, 14, 0], [2, 9, 1, 1, 0, 3, 10, 1, 0, 0, 0], margin=3)


class OnAShelf(LayingTest):
    def test_as_it_is_with_just_enough_width(self):
        self.assert_laid([(6, 5), (4, 5)], [1, 10, 9, 0], [3, 5, 2, 6, 1, 0, 0, 1, 1, 0, 0])

    def test_one_too_little_width(self):
        self.assert_laid([(6, 5), (4, 5)], [1, 9, 10, 0], [3, 5, 2, 6, 1, 0, 0, 0, 2, 4, 1, 1, 0, 0])
        self.assert_unlaid([(6, 5), (4, 5)], [1, 9, 9, 0], 1)

    def test_as_it_is_before_turned(self):
        self.assert_laid([(6, 8), (7, 5)], [1, 20, 20, 1], [3, 8, 2, 6, 1, 0, 0, 2, 7, 3, 5, 1, 1, 0, 0, 0, 0])
        self.assert_laid([(6, 8), (7, 5)], [1, 13, 20, 1], [3, 8, 2, 6, 1, 0, 0, 3, 5, 1, 1, 0, 0, 0])

    def test_square_blank_is_not_turned(self):
        self.assert_laid([(6, 6)], [1, 6, 6, 1], [1, 0, 0])
        self.assert_laid([(6, 6), (6, 6)], [1, 13, 7, 1], [3, 6, 2, 6, 1, 0, 0, 2, 6, 1, 1, 0, 0, 0])

    def test_only_turned_with_just_enough_width(self):
        self.assert_laid([(6, 8), (7, 5)], [1, 12, 20, 1], [3, 8, 2, 6, 1, 0, 0, 2, 5, 3, 7, 1, 1, 1, 0, 0, 0])
        self.assert_laid([(6, 8), (7, 5)], [1, 11, 20, 1], [3, 8, 2, 6, 1, 0, 0, 3, 7, 1, 1, 1, 0, 0])

    def test_neither_way_with_one_too_little_width(self):
        self.assert_laid([(6, 8), (7, 5)], [1, 10, 20, 1], [3, 8, 2, 6, 1, 0, 0, 0, 3, 5, 2, 7, 1, 1, 0, 0, 0])

    def test_not_turned_where_the_sheet_does_not_turn(self):
        self.assert_laid([(6, 8), (7, 5)], [1, 11, 20, 0], [3, 8, 2, 6, 1, 0, 0, 0, 3, 5, 2, 7, 1, 1, 0, 0, 0])

    def test_turned_with_just_enough_height_and_one_too_little(self):
        self.assert_laid([(6, 8), (8, 5)], [1, 11, 20, 1], [3, 8, 2, 6, 1, 0, 0, 1, 1, 1, 0])
        self.assert_laid([(6, 8), (9, 5)], [1, 11, 20, 1], [3, 8, 2, 6, 1, 0, 0, 0, 3, 5, 2, 9, 1, 1, 0, 0, 0])

    def test_shelf_lower_than_the_blank_that_began_it(self):
        # The first blank lies turned: 10 wide, on a shelf 4 high.
        sheet = [1, 30, 5, 1]
        self.assert_laid([(4, 10), (5, 4)], sheet, [3, 4, 2, 10, 1, 0, 1, 2, 5, 1, 1, 0, 0, 0])
        self.assert_laid([(4, 10), (4, 5)], sheet, [3, 4, 2, 10, 1, 0, 1, 2, 5, 1, 1, 1, 0, 0])
        self.assert_laid([(4, 10), (3, 5)], sheet, [3, 4, 2, 10, 1, 0, 1, 2, 5, 3, 3, 1, 1, 1, 0, 0, 0])
        self.assert_unlaid([(4, 10), (5, 5)], sheet, 1)

    def test_lower_shelf_first(self):
        self.assert_laid([(8, 10), (7, 9), (3, 4)], [1, 14, 19, 0],
                         [3, 10, 2, 8, 1, 0, 0, 2, 3, 3, 4, 1, 2, 0, 0, 0, 2, 7, 1, 1, 0, 0])

    def test_both_ways_on_a_shelf_before_the_next_one(self):
        boxes = [(8, 10), (7, 9), (7, 6)]
        self.assert_laid(boxes, [1, 14, 19, 1], [3, 10, 2, 8, 1, 0, 0, 3, 7, 1, 2, 1, 0, 2, 7, 1, 1, 0, 0])
        self.assert_laid(boxes, [1, 14, 19, 0], [3, 10, 2, 8, 1, 0, 0, 0, 2, 7, 1, 1, 0, 3, 6, 1, 2, 0, 0])

    def test_upper_shelf_where_the_lower_is_full(self):
        self.assert_laid([(8, 10), (7, 9), (7, 7)], [1, 14, 19, 1],
                         [3, 10, 2, 8, 1, 0, 0, 0, 2, 7, 1, 1, 0, 3, 7, 1, 2, 0, 0])

    def test_earlier_sheet_s_shelf_first(self):
        self.assert_laid([(10, 10), (10, 9), (4, 3)], [1, 14, 10, 0, 1, 14, 9, 0],
                         [2, 10, 1, 0, 0, 3, 3, 1, 2, 0, 0, 2, 10, 1, 1, 0, 0])

    def test_both_ways_on_an_earlier_sheet_s_shelf_first(self):
        boxes = [(10, 10), (10, 9), (4, 3)]
        self.assert_laid(boxes, [1, 13, 10, 1, 1, 14, 9, 0],
                         [2, 10, 1, 0, 0, 3, 4, 1, 2, 1, 0, 2, 10, 1, 1, 0, 0])
        self.assert_laid(boxes, [1, 13, 10, 0, 1, 14, 9, 1],
                         [2, 10, 1, 0, 0, 0, 2, 10, 1, 1, 0, 3, 3, 1, 2, 0, 0])

    def test_later_sheet_s_shelf_before_a_new_one_on_an_earlier(self):
        boxes = [(10, 10), (12, 9), (8, 8)]
        self.assert_laid(boxes, [1, 10, 30, 0, 1, 20, 30, 0],
                         [3, 10, 1, 0, 0, 0, 3, 9, 2, 12, 1, 1, 0, 3, 8, 1, 2, 0, 0, 0])
        self.assert_laid(boxes, [1, 10, 30, 0, 1, 19, 30, 0],
                         [3, 10, 1, 0, 0, 3, 8, 2, 8, 1, 2, 0, 0, 0, 3, 9, 2, 12, 1, 1, 0, 0, 0])

    def test_later_sheet_s_shelf_turned_before_a_new_one_as_it_is(self):
        boxes = [(10, 10), (12, 9), (9, 8)]
        self.assert_laid(boxes, [1, 10, 30, 0, 1, 20, 30, 1],
                         [3, 10, 1, 0, 0, 0, 3, 9, 2, 12, 1, 1, 0, 1, 2, 1, 0])
        self.assert_laid(boxes, [1, 10, 30, 0, 1, 20, 30, 0],
                         [3, 10, 1, 0, 0, 3, 8, 2, 9, 1, 2, 0, 0, 0, 3, 9, 2, 12, 1, 1, 0, 0, 0])

    def test_not_on_another_glass(self):
        self.assert_laid([(5, 8), (4, 6)], [1, 20, 20, 1, 2, 4, 6, 0], [3, 8, 2, 5, 1, 0, 0, 0, 0, 1, 1, 0], [1, 2])
        self.assert_unlaid([(5, 8), (4, 6)], [1, 20, 20, 1], 1, [1, 2])


class OnANewShelf(LayingTest):
    def test_as_it_is(self):
        self.assert_laid([(5, 8)], [1, 5, 8, 0], [1, 0, 0])
        self.assert_unlaid([(5, 8)], [1, 4, 8, 0], 0)
        self.assert_unlaid([(5, 8)], [1, 5, 7, 0], 0)

    def test_turned(self):
        self.assert_laid([(5, 8)], [1, 8, 5, 1], [1, 0, 1])
        self.assert_unlaid([(5, 8)], [1, 8, 5, 0], 0)
        self.assert_unlaid([(5, 8)], [1, 7, 5, 1], 0)
        self.assert_unlaid([(5, 8)], [1, 8, 4, 1], 0)

    def test_as_it_is_before_turned(self):
        self.assert_laid([(5, 8)], [1, 20, 20, 1], [3, 8, 2, 5, 1, 0, 0, 0, 0])
        self.assert_laid([(8, 5)], [1, 8, 8, 1], [3, 5, 1, 0, 0, 0])

    def test_both_ways_on_a_sheet_before_the_next_one(self):
        self.assert_laid([(5, 8)], [1, 8, 5, 1, 1, 20, 20, 0], [1, 0, 1, 0])
        self.assert_laid([(5, 8)], [1, 8, 5, 0, 1, 20, 20, 0], [0, 3, 8, 2, 5, 1, 0, 0, 0, 0])

    def test_just_enough_height_above_a_shelf_and_one_too_little(self):
        boxes = [(6, 8), (7, 5)]
        self.assert_laid(boxes, [1, 10, 13, 0], [3, 8, 2, 6, 1, 0, 0, 0, 2, 7, 1, 1, 0, 0])
        self.assert_unlaid(boxes, [1, 10, 12, 0], 1)
        self.assert_laid(boxes, [1, 10, 12, 0, 1, 7, 5, 0], [3, 8, 2, 6, 1, 0, 0, 0, 0, 1, 1, 0])

    def test_turned_above_a_shelf_just_enough_height_and_one_too_little(self):
        boxes = [(9, 8), (11, 7)]
        self.assert_laid(boxes, [1, 10, 20, 1], [3, 8, 2, 9, 1, 0, 0, 0, 3, 11, 2, 7, 1, 1, 1, 0, 0])
        self.assert_laid(boxes, [1, 10, 19, 1], [3, 8, 2, 9, 1, 0, 0, 0, 2, 7, 1, 1, 1, 0])
        self.assert_unlaid(boxes, [1, 10, 18, 1], 1)
        self.assert_unlaid(boxes, [1, 10, 20, 0], 1)

    def test_as_high_as_the_blank_lies_on_it(self):
        self.assert_laid([(9, 8), (11, 7), (3, 6)], [1, 10, 20, 1],
                         [3, 8, 2, 9, 1, 0, 0, 0, 3, 11, 2, 7, 1, 1, 1, 3, 6, 1, 2, 0, 0, 0])
        self.assert_laid([(4, 10), (5, 5)], [1, 30, 9, 1], [3, 4, 2, 10, 1, 0, 1, 0, 2, 5, 1, 1, 0, 0])
        self.assert_unlaid([(4, 10), (5, 5)], [1, 30, 8, 1], 1)

    def test_above_two_shelves(self):
        boxes = [(9, 8), (9, 7), (9, 4)]
        self.assert_laid(boxes, [1, 9, 19, 0], [3, 8, 1, 0, 0, 3, 7, 1, 1, 0, 1, 2, 0])
        self.assert_laid(boxes, [1, 9, 20, 0], [3, 8, 1, 0, 0, 3, 7, 1, 1, 0, 3, 4, 1, 2, 0, 0])
        self.assert_unlaid(boxes, [1, 9, 18, 0], 2)

    def test_earlier_sheet_first(self):
        self.assert_laid([(9, 8), (9, 8)], [1, 10, 20, 0] * 2, [3, 8, 2, 9, 1, 0, 0, 0, 3, 8, 2, 9, 1, 1, 0, 0, 0, 0])

    def test_not_on_another_glass(self):
        self.assert_laid([(5, 8)], [2, 20, 20, 1, 1, 5, 8, 0], [0, 1, 0, 0])
        self.assert_laid([(5, 8), (5, 8)], [2, 5, 8, 1, 1, 5, 8, 0], [1, 1, 0, 1, 0, 0], [1, 2])
        self.assert_unlaid([(5, 8)], [2, 20, 20, 1], 0)

    def test_margin_counts_twice(self):
        self.assert_laid([(5, 8)], [1, 11, 14, 0], [1, 0, 0], margin=3)
        self.assert_unlaid([(5, 8)], [1, 10, 14, 0], 0, margin=3)
        self.assert_unlaid([(5, 8)], [1, 11, 13, 0], 0, margin=3)


class FormOfTheLayout(LayingTest):
    def test_sheets_without_shelves(self):
        self.assert_laid([(5, 8)], [1, 4, 8, 0, 2, 9, 9, 1, 1, 5, 8, 0, 1, 5, 8, 1], [0, 0, 1, 0, 0, 0])

    def test_shelf_that_fills_the_height_or_does_not(self):
        self.assert_laid([(5, 8)], [1, 5, 8, 0], [1, 0, 0])
        self.assert_laid([(5, 8)], [1, 5, 9, 0], [3, 8, 1, 0, 0, 0])

    def test_blank_that_fills_the_width_or_does_not(self):
        self.assert_laid([(5, 8)], [1, 6, 8, 0], [2, 5, 1, 0, 0, 0])
        self.assert_laid([(5, 8), (3, 8)], [1, 8, 8, 0], [2, 5, 1, 0, 0, 1, 1, 0])
        self.assert_laid([(5, 8), (3, 8)], [1, 9, 8, 0], [2, 5, 1, 0, 0, 2, 3, 1, 1, 0, 0])

    def test_blank_lower_than_its_shelf(self):
        self.assert_laid([(5, 8), (3, 7)], [1, 8, 8, 0], [2, 5, 1, 0, 0, 3, 7, 1, 1, 0, 0])
        self.assert_laid([(5, 8), (3, 2)], [1, 9, 9, 0], [3, 8, 2, 5, 1, 0, 0, 2, 3, 3, 2, 1, 1, 0, 0, 0, 0])

    def test_turned_blank_lower_than_its_shelf_or_as_high(self):
        self.assert_laid([(5, 8), (6, 4)], [1, 9, 8, 1], [2, 5, 1, 0, 0, 3, 6, 1, 1, 1, 0])
        self.assert_laid([(5, 8), (8, 4)], [1, 9, 8, 1], [2, 5, 1, 0, 0, 1, 1, 1])

    def test_greatest_sheet(self):
        self.assert_laid([(5, 8)], [1, 16777215, 16777215, 1], [3, 8, 2, 5, 1, 0, 0, 0, 0])

    def test_each_pane_on_the_sheet_of_its_glass(self):
        self.assertEqual(lay(0, row_cartoon([4, 5, 4]), [5, 20, 16, 0, 4, 40, 17, 0]),
                         [0, 14, 1, 1, 0, 3, 16, 2, 20, 1, 0, 0, 1, 2, 0, 0])


class NotLaid(LayingTest):
    def test_no_sheets(self):
        self.assertEqual(lay(0, frame_cartoon(), []), [-3, 0])
        self.assertEqual(lay(1, run_cartoon(), []), [-3, 2])

    def test_first_in_the_order(self):
        self.assert_unlaid([(5, 4), (30, 8), (3, 8), (30, 9), (30, 7)], [1, 20, 20, 0], 3)
        self.assert_unlaid([(25, 8), (30, 8), (4, 8)], [1, 20, 20, 0], 1)
        self.assert_unlaid([(4, 8), (30, 8), (30, 8)], [1, 20, 20, 0], 1)

    def test_others_behind_it_would_go(self):
        self.assert_unlaid([(4, 4), (30, 8), (4, 9)], [1, 20, 20, 0], 1)

    def test_no_more_room(self):
        for many in range(1, 6):
            sheet = [1, 9, 17, 0]
            if many <= 4:
                self.assertEqual(self.told([(4, 8)] * many, sheet, None, 0)[0], 0)
            else:
                self.assert_unlaid([(4, 8)] * many, sheet, 4)

    def test_pane_around_the_others(self):
        cartoon = boxes_cartoon([(5, 8)], [1])
        self.assertEqual(lay(0, cartoon, [1, 5, 8, 0]), [-3, 1])
        self.assertEqual(lay(0, cartoon, [9, 100, 100, 0]), [-3, 0])


if __name__ == "__main__":
    unittest.main()
