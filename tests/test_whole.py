"""The call whole."""

import unittest
from itertools import combinations

import reference
from nothreelines.points import filled, may, threes, whole
from reference import (GREATEST, LARGEST, SIZES, WHOLE_BUT_SMALL, all_points, lists_of_100, not_sets, picked,
                       subsets, without_lines)


class Answers(unittest.TestCase):
    def test_none_may_be_added(self):
        self.assertEqual(whole(1, [0, 2]), [1])
        self.assertEqual(whole(2, [0, 1, 3, 4]), [1])
        self.assertEqual(whole(2, [0, 1, 7, 8]), [1])
        self.assertEqual(whole(3, [0, 1, 3, 4, 11, 14, 15, 16, 26]), [1])
        self.assertEqual(whole(4, [0, 1, 3, 4, 9, 10, 12, 13, 29, 32, 33, 34, 38, 41, 42, 43, 62, 80]), [1])

    def test_a_point_may_be_added(self):
        self.assertEqual(whole(1, [2]), [0])
        self.assertEqual(whole(2, [0, 1, 3]), [0])
        self.assertEqual(whole(2, [4, 8]), [0])
        self.assertEqual(whole(3, [0, 1, 3, 4]), [0])
        self.assertEqual(whole(3, [0, 1, 3, 4, 11, 14, 15, 16]), [0])
        self.assertEqual(whole(4, [0, 1, 3, 4, 9, 10, 12, 13]), [0])
        self.assertEqual(whole(4, [0, 1, 3, 4, 9, 10, 12, 13, 29, 32, 33, 34, 38, 41, 42, 43, 62]), [0])

    def test_three_in_a_line(self):
        for n in SIZES:
            last = 3 ** n - 1
            for s in ([0, 1, 2], [0, last // 2, last], [last - 2, last - 1, last]):
                self.assertEqual(whole(n, s), [0], (n, s))
        for n in (2, 3, 4):
            self.assertEqual(whole(n, [1, 3, 8]), [0])
        for step in (5, 7, 11, 13):
            self.assertEqual(whole(4, picked(4, step, 1)), [0])

    def test_three_in_a_line_and_none_may_be_added(self):
        for n in (2, 3, 4):
            self.assertEqual(whole(n, all_points(n)[1:]), [0])
            self.assertEqual(whole(n, all_points(n)[:-1]), [0])
        for n in SIZES:
            for point in all_points(n):
                if point not in GREATEST[n]:
                    s = sorted(GREATEST[n] + [point])
                    self.assertEqual(reference.may(n, s), [0])
                    self.assertEqual(whole(n, s), [0], (n, s))

    def test_every_set_of_few_points(self):
        for n in (1, 2):
            for s in subsets(all_points(n)):
                self.assertEqual(whole(n, s), reference.whole(n, s), (n, s))

    def test_sets_of_more_points(self):
        for s in combinations(all_points(3), 3):
            self.assertEqual(whole(3, list(s)), [0])
        for n in (3, 4):
            for s in without_lines(n):
                self.assertEqual(whole(n, s), reference.whole(n, s), (n, s))

    def test_whole_just_if_filling_adds_none(self):
        for n in SIZES:
            for s in without_lines(n):
                self.assertEqual(whole(n, s), [int(may(n, s) == [0])])
                self.assertEqual(whole(n, s), [int(filled(n, s)[1:] == s)])
                self.assertEqual(whole(n, filled(n, s)[1:]), [1])

    def test_the_empty_set(self):
        for n in SIZES:
            self.assertEqual(whole(n, []), [0])

    def test_one_point(self):
        for n in SIZES:
            for point in all_points(n):
                self.assertEqual(whole(n, [point]), [0])

    def test_all_points(self):
        for n in SIZES:
            self.assertEqual(whole(n, all_points(n)), [0])

    def test_a_greatest_set(self):
        for n in SIZES:
            self.assertEqual(whole(n, GREATEST[n]), [1])
            for point in GREATEST[n]:
                self.assertEqual(whole(n, [x for x in GREATEST[n] if x != point]), [0])

    def test_a_whole_set_that_is_not_the_greatest(self):
        for n, s in WHOLE_BUT_SMALL.items():
            self.assertLess(len(s), len(GREATEST[n]))
            self.assertEqual(threes(n, GREATEST[n]), [0])
            self.assertEqual(whole(n, s), [1])
            for point in s:
                self.assertEqual(whole(n, [x for x in s if x != point]), [0])


class Refusals(unittest.TestCase):
    def test_n_is_not_1_to_4(self):
        for n in (0, 5, 6, 100, LARGEST):
            for s in ([], [0], [0, 1], [0, 1, 2], [2, 1], list(range(100))):
                self.assertEqual(whole(n, s), [-22])

    def test_s_is_not_a_set(self):
        for n in SIZES:
            for s in not_sets(n):
                self.assertEqual(whole(n, s), [-22], (n, s))

    def test_lists_of_100(self):
        for n in SIZES:
            for s in lists_of_100():
                self.assertEqual(len(s), 100)
                self.assertEqual(whole(n, s), [-22])

    def test_a_whole_set_told_wrong(self):
        for n in SIZES:
            s = GREATEST[n]
            self.assertEqual(whole(n, list(reversed(s))), [-22])
            self.assertEqual(whole(n, s + s[-1:]), [-22])
            self.assertEqual(whole(n, s + [3 ** n]), [-22])

    def test_not_a_set_and_three_in_a_line(self):
        for n in SIZES:
            for s in ([2, 1, 0], [0, 1, 2, 1], [0, 1, 2, 2], [0, 1, 2, 3 ** n], [0, 1, 2, LARGEST]):
                self.assertEqual(whole(n, s), [-22], (n, s))


if __name__ == "__main__":
    unittest.main()
