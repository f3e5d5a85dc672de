"""What all calls keep to: what is handed in stays as it was, nothing is kept, whole numbers are given back."""

import inspect
import random
import unittest

from build import RUN_ROW, RUN_SHEETS, frame_cartoon, grid_cartoon, put, run_cartoon
from glasssheets import layouts


class Untouchable(list):
    """A list that can't be changed, not for a while either."""

    def refuse(self, *args, **kwargs):
        raise AssertionError("what was handed in was changed")

    append = clear = extend = insert = pop = remove = reverse = sort = refuse
    __setitem__ = __delitem__ = __iadd__ = __imul__ = refuse


BLANK_CALLS = [
    (1, 0, run_cartoon()),
    (1, 3, run_cartoon()),
    (65536, 0, run_cartoon()),
    (0, 0, run_cartoon()[:-1]),
    (0, 0, put(run_cartoon(), 20, 4, 31)),
    (0, 0, []),
]
JUDGE_CALLS = [
    (1, run_cartoon(), RUN_SHEETS, RUN_ROW),
    (1, run_cartoon(), RUN_SHEETS, RUN_ROW[:-1]),
    (1, run_cartoon(), RUN_SHEETS, RUN_ROW + [0]),
    (2, run_cartoon(), RUN_SHEETS, RUN_ROW),
    (1, run_cartoon(), RUN_SHEETS[:-1] + [2], RUN_ROW),
    (1, run_cartoon(), RUN_SHEETS * 400, RUN_ROW),
    (1, run_cartoon(), [], []),
    (0, frame_cartoon(), [3, 20, 16, 0], [1, 0, 0]),
    (0, [], [], []),
]
LAY_CALLS = [handed[:3] for handed in JUDGE_CALLS] + [
    (1, run_cartoon(), RUN_SHEETS[:7] + [0] + RUN_SHEETS[8:]),
    (0, grid_cartoon(3, 3, 2), [1, 25, 12, 1, 1, 12, 40, 0, 1, 30, 30, 1]),
]

TIGHT_CALLS = [
    (10, 20, [9, 12, 12, 11], [20, 21, 21, 22]),
    (10, 20, [9], [20]),
    (0, 0, [], []),
    (10, 20, [10] * 64, [20] * 64),
    (10, 20, [10] * 65, [20] * 65),
    (10, 20, [10, 11], [20]),
]


def copied(handed):
    return tuple(list(one) if isinstance(one, list) else one for one in handed)


def untouchable(handed):
    return tuple(Untouchable(one) if isinstance(one, list) else one for one in handed)


class Calls(unittest.TestCase):
    def each(self):
        for handed in BLANK_CALLS:
            yield layouts.blank, handed
        for handed in JUDGE_CALLS:
            yield layouts.judge, handed
            yield layouts.cuts, handed
            yield layouts.left, handed
            for i in (0, 2, 3):
                yield layouts.where, (handed[0], i) + handed[1:]
        for handed in LAY_CALLS:
            yield layouts.lay, handed
        for handed in TIGHT_CALLS:
            yield layouts.tight, handed

    def test_what_is_handed_in_stays(self):
        for call, handed in self.each():
            before = copied(handed)
            call(*handed)
            self.assertEqual(handed, before)

    def test_what_is_handed_in_is_not_changed_for_a_while(self):
        for call, handed in self.each():
            self.assertEqual(call(*untouchable(handed)), call(*handed))

    def test_the_same_again(self):
        first = [call(*handed) for call, handed in self.each()]
        again = [call(*handed) for call, handed in reversed(list(self.each()))]
        self.assertEqual(first, again[::-1])

    def test_one_behind_another(self):
        calls = list(self.each())
        alone = [call(*copied(handed)) for call, handed in calls]
        source = random.Random(60)
        for _ in range(5):
            numbers = list(range(len(calls))) * 2
            source.shuffle(numbers)
            for k in numbers:
                call, handed = calls[k]
                self.assertEqual(call(*handed), alone[k])

    def test_same_lists_handed_to_all(self):
        data, sheets, row = Untouchable(run_cartoon()), Untouchable(RUN_SHEETS), Untouchable(RUN_ROW)
        for _ in range(2):
            self.assertEqual(layouts.lay(1, data, sheets), [0, 18] + RUN_ROW)
            self.assertEqual(layouts.tight(12, 32, sheets[1::4], sheets[2::4]), [0, 1])
            self.assertEqual(layouts.left(1, data, sheets, row), [0, 712, 1352])
            self.assertEqual(layouts.where(1, 0, data, sheets, row), [0, 1, 0, 0, 12, 32, 1])
            self.assertEqual(layouts.judge(2, data, sheets, row), [0, 6, 5])
            self.assertEqual(layouts.cuts(1, data, sheets, row)[:7], [0, 15, 0, 0, 22, 40, 22])
            self.assertEqual(layouts.blank(1, 2, data), [0, 32, 22])
            self.assertEqual(layouts.judge(1, data, sheets, row), [0])

    def test_same_list_for_widths_and_heights(self):
        lengths = Untouchable([30, 12, 25, 12])
        self.assertEqual(layouts.tight(10, 11, lengths, lengths), [0, 1])
        self.assertEqual(lengths, [30, 12, 25, 12])

    def test_what_is_given_back_is_the_caller_s(self):
        for call, handed in self.each():
            told = call(*handed)
            kept = list(told)
            told.append(99)
            told[0] = 98
            self.assertEqual(call(*handed), kept)

    def test_lists_of_whole_numbers(self):
        for call, handed in self.each():
            told = call(*handed)
            self.assertIs(type(told), list)
            self.assertEqual({type(number) for number in told}, {int})

    def test_arguments_in_their_order(self):
        due = {
            "blank": ["margin", "i", "cartoon"],
            "judge": ["margin", "cartoon", "sheets", "row"],
            "lay": ["margin", "cartoon", "sheets"],
            "cuts": ["margin", "cartoon", "sheets", "row"],
            "where": ["margin", "i", "cartoon", "sheets", "row"],
            "left": ["margin", "cartoon", "sheets", "row"],
            "tight": ["width", "height", "widths", "heights"],
        }
        for name, handed in due.items():
            self.assertEqual(list(inspect.signature(getattr(layouts, name)).parameters), handed)

    def test_arguments_by_name(self):
        self.assertEqual(layouts.blank(margin=1, i=0, cartoon=run_cartoon()), [0, 32, 12])
        self.assertEqual(layouts.judge(margin=1, cartoon=run_cartoon(), sheets=RUN_SHEETS, row=RUN_ROW), [0])
        self.assertEqual(layouts.lay(margin=1, cartoon=run_cartoon(), sheets=RUN_SHEETS), [0, 18] + RUN_ROW)
        self.assertEqual(layouts.cuts(margin=1, cartoon=run_cartoon(), sheets=RUN_SHEETS, row=RUN_ROW)[:2], [0, 15])
        self.assertEqual(layouts.where(margin=1, i=0, cartoon=run_cartoon(), sheets=RUN_SHEETS, row=RUN_ROW),
                         [0, 1, 0, 0, 12, 32, 1])
        self.assertEqual(layouts.left(margin=1, cartoon=run_cartoon(), sheets=RUN_SHEETS, row=RUN_ROW), [0, 712, 1352])
        self.assertEqual(layouts.tight(width=10, height=20, widths=[30, 12, 9], heights=[20, 21, 20]), [0, 0])


if __name__ == "__main__":
    unittest.main()
