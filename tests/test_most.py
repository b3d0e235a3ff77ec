"""The call most."""

import unittest

import reference
from nothreelines.points import filled, most, threes, whole
from reference import GREATEST, LARGEST, all_points, subsets, without_lines


class Answers(unittest.TestCase):
    def test_written_out(self):
        self.assertEqual(most(1), [2])
        self.assertEqual(most(2), [4])
        self.assertEqual(most(3), [9])

    def test_what_a_search_through_every_set_finds(self):
        for n in (1, 2):
            sizes = [len(s) for s in subsets(all_points(n)) if reference.threes(n, s) == [0]]
            self.assertEqual(most(n), [max(sizes)])

    def test_what_a_search_that_leaves_out_hopeless_sets_finds(self):
        for n in (1, 2, 3):
            self.assertEqual(most(n), [reference.most(n)])


class WhatHolds(unittest.TestCase):
    def test_a_set_without_three_in_a_line_has_no_more(self):
        for n in (1, 2):
            for s in subsets(all_points(n)):
                if threes(n, s) == [0]:
                    self.assertLessEqual([len(s)], most(n))
        for n in (1, 2, 3):
            for s in without_lines(n):
                self.assertLessEqual([len(s)], most(n))
                self.assertLessEqual(filled(n, s)[:1], most(n))

    def test_a_set_of_one_more_has_three_in_a_line(self):
        for s in subsets(all_points(2)):
            if [len(s)] > most(2):
                self.assertNotEqual(threes(2, s), [0])

    def test_some_set_has_as_many(self):
        for n in (1, 2, 3):
            self.assertEqual(threes(n, GREATEST[n]), [0])
            self.assertEqual(whole(n, GREATEST[n]), [1])
            self.assertEqual([len(GREATEST[n])], most(n))


class Refusals(unittest.TestCase):
    def test_n_is_not_1_to_4(self):
        for n in (0, 5, 6, 100, LARGEST):
            self.assertEqual(most(n), [-22])

    def test_n_is_4(self):
        self.assertEqual(most(4), [-28])


if __name__ == "__main__":
    unittest.main()
