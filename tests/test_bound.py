"""The call bound."""

import unittest

import reference
from nothreelines.points import bound, filled, most, rooms, threes
from reference import GREATEST, LARGEST, SIZES, WHOLE_BUT_SMALL, all_points, subsets, whole_sets, without_lines


class Answers(unittest.TestCase):
    def test_written_out(self):
        self.assertEqual(bound(1), [3])
        self.assertEqual(bound(2), [9])
        self.assertEqual(bound(3), [30])
        self.assertEqual(bound(4), [45])

    def test_three_times_what_counting_through_all_rows_finds(self):
        for n in SIZES:
            self.assertEqual(bound(n), reference.bound(n))

    def test_three_times_the_rooms(self):
        for n, d in ((1, 0), (2, 1), (3, 2), (4, 2)):
            self.assertEqual(bound(n), [3 * rooms(n, d)[0]])


class WhatHolds(unittest.TestCase):
    def test_the_most_is_no_more(self):
        for n in (1, 2, 3):
            self.assertLessEqual(most(n)[0], bound(n)[0])
            self.assertGreater(most(n)[0], 0)

    def test_a_whole_set_has_no_more(self):
        for n in SIZES:
            known = whole_sets(n)
            self.assertIn(GREATEST[n], known)
            if n in WHOLE_BUT_SMALL:
                self.assertIn(WHOLE_BUT_SMALL[n], known)
            for s in known:
                self.assertLessEqual(len(s), bound(n)[0], (n, s))

    def test_a_set_without_three_in_a_line_has_no_more(self):
        for n in (1, 2):
            for s in subsets(all_points(n)):
                if threes(n, s) == [0]:
                    self.assertLessEqual(len(s), bound(n)[0], (n, s))
        for n in SIZES:
            for s in [[]] + without_lines(n):
                self.assertLessEqual(len(s), bound(n)[0], (n, s))
                self.assertLessEqual(filled(n, s)[0], bound(n)[0], (n, s))


class Refusals(unittest.TestCase):
    def test_n_is_not_1_to_4(self):
        for n in (0, 5, 6, 100, LARGEST):
            self.assertEqual(bound(n), [-22])


if __name__ == "__main__":
    unittest.main()
