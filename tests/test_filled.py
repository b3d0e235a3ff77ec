"""The call filled."""

import unittest
from itertools import combinations

import reference
from nothreelines.points import filled, may, threes
from reference import (GREATEST, LARGEST, SIZES, WHOLE_BUT_SMALL, all_points, lists_of_100, not_sets, picked,
                       subsets, without_lines)


class Answers(unittest.TestCase):
    def test_written_out(self):
        self.assertEqual(filled(1, [1]), [2, 0, 1])
        self.assertEqual(filled(1, [2]), [2, 0, 2])
        self.assertEqual(filled(2, [8]), [4, 0, 1, 5, 8])
        self.assertEqual(filled(2, [7, 8]), [4, 0, 1, 7, 8])
        self.assertEqual(filled(3, [13]), [8, 0, 1, 3, 4, 9, 10, 12, 13])
        self.assertEqual(filled(3, [26]), [9, 0, 1, 3, 4, 11, 14, 15, 16, 26])
        self.assertEqual(
            filled(4, [80]),
            [18, 0, 1, 3, 4, 9, 10, 12, 13, 29, 32, 33, 34, 38, 41, 42, 43, 62, 80])

    def test_every_set_of_few_points(self):
        for n in (1, 2):
            for s in subsets(all_points(n)):
                due = reference.filled(n, s) if reference.threes(n, s) == [0] else [-33]
                self.assertEqual(filled(n, s), due, (n, s))

    def test_sets_of_more_points(self):
        for s in without_lines(3):
            self.assertEqual(filled(3, s), reference.filled(3, s), s)
        for s in without_lines(4)[::9]:
            self.assertEqual(filled(4, s), reference.filled(4, s), s)

    def test_from_0_on_the_lowest_point_that_may_be_added_then(self):
        for n in SIZES:
            for s in without_lines(n):
                full = list(s)
                while may(n, full) != [0]:
                    full = sorted(full + [may(n, full)[1]])
                self.assertEqual(filled(n, s), [len(full)] + full)

    def test_the_empty_set(self):
        self.assertEqual(filled(1, []), [2, 0, 1])
        self.assertEqual(filled(2, []), [4, 0, 1, 3, 4])
        self.assertEqual(filled(3, []), [8, 0, 1, 3, 4, 9, 10, 12, 13])
        self.assertEqual(
            filled(4, []),
            [16, 0, 1, 3, 4, 9, 10, 12, 13, 27, 28, 30, 31, 36, 37, 39, 40])

    def test_one_point(self):
        for n in (1, 2, 3):
            for point in all_points(n):
                self.assertEqual(filled(n, [point]), reference.filled(n, [point]))

    def test_a_whole_set_stays(self):
        for n in SIZES:
            for s in without_lines(n):
                answer = filled(n, s)
                self.assertEqual(filled(n, answer[1:]), answer)

    def test_a_whole_set_that_is_not_the_greatest_stays(self):
        for n, s in WHOLE_BUT_SMALL.items():
            self.assertEqual(filled(n, s), [len(s)] + s)

    def test_a_greatest_set_stays(self):
        for n, s in GREATEST.items():
            self.assertEqual(filled(n, s), [len(s)] + s)

    def test_the_one_point_that_a_greatest_set_lacks(self):
        for n in (3, 4):
            due = [len(GREATEST[n])] + GREATEST[n]
            self.assertEqual(due[-1], 3 ** n - 1)
            for point in GREATEST[n]:
                self.assertEqual(filled(n, [x for x in GREATEST[n] if x != point]), due)


class WhatHolds(unittest.TestCase):
    def check(self, n, s):
        answer = filled(n, s)
        full = answer[1:]
        self.assertEqual(answer[0], len(full))
        self.assertEqual(full, sorted(set(full)))
        self.assertTrue(set(s) <= set(full), (n, s))
        self.assertEqual(threes(n, full), [0], (n, s))
        self.assertEqual(may(n, full), [0], (n, s))

    def test_every_set_of_few_points(self):
        for n in (1, 2):
            for s in subsets(all_points(n)):
                if threes(n, s) == [0]:
                    self.check(n, s)

    def test_one_point_or_two(self):
        for n in SIZES:
            for point in all_points(n):
                self.check(n, [point])
        for s in combinations(all_points(3), 2):
            self.check(3, list(s))

    def test_sets_of_more_points(self):
        for n in SIZES:
            self.check(n, [])
            for s in without_lines(n):
                self.check(n, s)


class Refusals(unittest.TestCase):
    def test_n_is_not_1_to_4(self):
        for n in (0, 5, 6, 100, LARGEST):
            for s in ([], [0], [0, 1], list(range(100))):
                self.assertEqual(filled(n, s), [-22])

    def test_s_is_not_a_set(self):
        for n in SIZES:
            for s in not_sets(n):
                self.assertEqual(filled(n, s), [-22], (n, s))

    def test_the_last_point_and_one_beyond(self):
        for n in SIZES:
            last = 3 ** n - 1
            self.assertEqual(filled(n, [last])[-1], last)
            self.assertEqual(filled(n, [last + 1]), [-22])

    def test_three_in_a_line(self):
        for n in SIZES:
            last = 3 ** n - 1
            for s in ([0, 1, 2], [0, last // 2, last], [last - 2, last - 1, last], all_points(n)):
                self.assertEqual(filled(n, s), [-33], (n, s))
        for n in (2, 3, 4):
            self.assertEqual(filled(n, all_points(n)[:-1]), [-33])
            self.assertEqual(filled(n, [1, 3, 8]), [-33])
        for step in (5, 7, 11, 13):
            self.assertEqual(filled(4, picked(4, step, 1)), [-33])

    def test_three_in_a_line_when_one_more_is_added(self):
        for n in SIZES:
            full = filled(n, [])[1:]
            for point in all_points(n):
                if point not in full:
                    self.assertEqual(filled(n, sorted(full + [point])), [-33])

    def test_both_due(self):
        for n in (0, 5, LARGEST):
            for s in ([0, 1, 2], [0, 1, 2, 3, 6], [2, 1, 0]):
                self.assertEqual(filled(n, s), [-22])
        for n in SIZES:
            for s in ([2, 1, 0], [0, 1, 2, 1], [0, 1, 2, 2], [0, 1, 2, 3 ** n], [0, 1, 2, LARGEST]):
                self.assertEqual(filled(n, s), [-22], (n, s))
            for s in lists_of_100():
                self.assertEqual(filled(n, s), [-22])


if __name__ == "__main__":
    unittest.main()
