"""The call may."""

import unittest
from itertools import combinations

import reference
from nothreelines.points import may, threes
from reference import (GREATEST, LARGEST, SIZES, WHOLE_BUT_SMALL, all_points, lists_of_100, not_sets, picked,
                       subsets, without_lines)


class Answers(unittest.TestCase):
    def test_written_out(self):
        self.assertEqual(may(1, [1]), [2, 0, 2])
        self.assertEqual(may(1, [0, 2]), [0])
        self.assertEqual(may(2, [0, 1]), [6, 3, 4, 5, 6, 7, 8])
        self.assertEqual(may(2, [0, 1, 3]), [3, 4, 5, 7])
        self.assertEqual(may(2, [4, 8]), [6, 1, 2, 3, 5, 6, 7])
        self.assertEqual(may(2, [0, 1, 3, 4]), [0])
        self.assertEqual(may(3, WHOLE_BUT_SMALL[3][1:]), [4, 0, 2, 6, 18])
        self.assertEqual(may(3, WHOLE_BUT_SMALL[3][:-1]), [4, 13, 14, 16, 22])
        self.assertEqual(may(3, [0, 13]), [24] + [x for x in range(1, 26) if x != 13])
        self.assertEqual(may(4, [0, 80]), [78] + [x for x in range(1, 80) if x != 40])

    def test_every_set_of_few_points(self):
        for n in (1, 2):
            for s in subsets(all_points(n)):
                due = reference.may(n, s) if reference.threes(n, s) == [0] else [-33]
                self.assertEqual(may(n, s), due, (n, s))

    def test_every_three_points_of_3_numbers(self):
        for s in combinations(all_points(3), 3):
            due = reference.may(3, s) if reference.threes(3, s) == [0] else [-33]
            self.assertEqual(may(3, list(s)), due, s)

    def test_sets_of_more_points(self):
        for n in (3, 4):
            for s in without_lines(n):
                self.assertEqual(may(n, s), reference.may(n, s), (n, s))

    def test_just_what_makes_no_line_when_added(self):
        for n in SIZES:
            for s in without_lines(n):
                added = [x for x in all_points(n) if x not in s and threes(n, sorted(s + [x])) == [0]]
                self.assertEqual(may(n, s), [len(added)] + added)

    def test_the_empty_set(self):
        for n in SIZES:
            self.assertEqual(may(n, []), [3 ** n] + all_points(n))

    def test_one_point(self):
        for n in SIZES:
            for point in all_points(n):
                others = [x for x in all_points(n) if x != point]
                self.assertEqual(may(n, [point]), [len(others)] + others)

    def test_a_greatest_set(self):
        for n in SIZES:
            self.assertEqual(may(n, GREATEST[n]), [0])
        for n in (3, 4):
            for point in GREATEST[n]:
                self.assertEqual(may(n, [x for x in GREATEST[n] if x != point]), [1, point])

    def test_a_whole_set_that_is_not_the_greatest(self):
        for n, s in WHOLE_BUT_SMALL.items():
            self.assertEqual(may(n, s), [0])


class Refusals(unittest.TestCase):
    def test_n_is_not_1_to_4(self):
        for n in (0, 5, 6, 100, LARGEST):
            for s in ([], [0], [0, 1], list(range(100))):
                self.assertEqual(may(n, s), [-22])

    def test_s_is_not_a_set(self):
        for n in SIZES:
            for s in not_sets(n):
                self.assertEqual(may(n, s), [-22], (n, s))

    def test_the_last_point_and_one_beyond(self):
        for n in SIZES:
            last = 3 ** n - 1
            self.assertEqual(may(n, [last]), [last] + all_points(n)[:-1])
            self.assertEqual(may(n, [last + 1]), [-22])

    def test_three_in_a_line(self):
        for n in SIZES:
            last = 3 ** n - 1
            for s in ([0, 1, 2], [0, last // 2, last], [last - 2, last - 1, last], all_points(n)):
                self.assertEqual(may(n, s), [-33], (n, s))
        for n in (2, 3, 4):
            self.assertEqual(may(n, all_points(n)[:-1]), [-33])
            self.assertEqual(may(n, [1, 3, 8]), [-33])
        for step in (5, 7, 11, 13):
            self.assertEqual(may(4, picked(4, step, 1)), [-33])

    def test_three_in_a_line_when_one_more_is_added(self):
        for n in SIZES:
            for s in without_lines(n):
                free = may(n, s)[1:]
                for point in all_points(n):
                    if point not in s and point not in free:
                        self.assertEqual(may(n, sorted(s + [point])), [-33])

    def test_both_due(self):
        for n in (0, 5, LARGEST):
            for s in ([0, 1, 2], [0, 1, 2, 3, 6], [2, 1, 0]):
                self.assertEqual(may(n, s), [-22])
        for n in SIZES:
            for s in ([2, 1, 0], [0, 1, 2, 1], [0, 1, 2, 2], [0, 1, 2, 3 ** n], [0, 1, 2, LARGEST]):
                self.assertEqual(may(n, s), [-22], (n, s))
            for s in lists_of_100():
                self.assertEqual(may(n, s), [-22])


if __name__ == "__main__":
    unittest.main()
