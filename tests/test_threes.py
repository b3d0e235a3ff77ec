"""The call threes."""

import unittest

import reference
from nothreelines.points import third, threes
from reference import LARGEST, SIZES, all_points, picked, subsets


class Answers(unittest.TestCase):
    def test_written_out(self):
        self.assertEqual(threes(1, [0, 1, 2]), [1, 0, 1, 2])
        self.assertEqual(threes(2, [0, 1, 2, 3, 6]), [2, 0, 1, 2, 0, 3, 6])
        self.assertEqual(threes(2, [0, 1, 3, 4]), [0])
        self.assertEqual(threes(2, [1, 3, 8]), [1, 1, 3, 8])
        self.assertEqual(threes(3, [0, 13, 26]), [1, 0, 13, 26])
        self.assertEqual(threes(3, [0, 1, 9, 10]), [0])
        self.assertEqual(threes(4, [0, 27, 40, 54, 80]), [2, 0, 27, 54, 0, 40, 80])
        self.assertEqual(threes(4, [78, 79, 80]), [1, 78, 79, 80])

    def test_by_the_first_then_by_the_second(self):
        self.assertEqual(
            threes(2, all_points(2)),
            [12,
             0, 1, 2, 0, 3, 6, 0, 4, 8, 0, 5, 7,
             1, 3, 8, 1, 4, 7, 1, 5, 6,
             2, 3, 7, 2, 4, 6, 2, 5, 8,
             3, 4, 5, 6, 7, 8])

    def test_every_set_of_few_points(self):
        for n in (1, 2):
            for s in subsets(all_points(n)):
                self.assertEqual(threes(n, s), reference.threes(n, s), (n, s))

    def test_sets_of_more_points(self):
        for n in (3, 4):
            for step in (5, 7, 11, 13):
                for offset in (0, 1, 2):
                    s = picked(n, step, offset)
                    self.assertEqual(threes(n, s), reference.threes(n, s), (n, s))

    def test_three_points_are_a_line_just_if_each_is_the_third(self):
        for first in range(27):
            for second in range(first + 1, 27):
                for last in range(second + 1, 27):
                    due = [0]
                    if third(3, first, second) == [last]:
                        due = [1, first, second, last]
                    self.assertEqual(threes(3, [first, second, last]), due)

    def test_the_empty_set(self):
        for n in SIZES:
            self.assertEqual(threes(n, []), [0])

    def test_one_point(self):
        for n in SIZES:
            for point in all_points(n):
                self.assertEqual(threes(n, [point]), [0])

    def test_two_points(self):
        for n in SIZES:
            self.assertEqual(threes(n, [0, 3 ** n - 1]), [0])

    def test_all_points(self):
        for n, count in ((1, 1), (2, 12), (3, 117), (4, 1080)):
            answer = threes(n, all_points(n))
            self.assertEqual(answer[0], count)
            self.assertEqual(len(answer), 1 + 3 * count)
            self.assertEqual(answer, reference.threes(n, all_points(n)))

    def test_one_list_of_ints(self):
        for answer in (threes(1, []), threes(2, all_points(2)), threes(0, []), threes(1, [3])):
            self.assertIs(type(answer), list)
            self.assertEqual({type(value) for value in answer}, {int})


class Refusals(unittest.TestCase):
    def test_n_is_not_1_to_4(self):
        for n in (0, 5, 6, 100, LARGEST):
            for s in ([], [0], [0, 1, 2], list(range(100))):
                self.assertEqual(threes(n, s), [-22])

    def test_not_rising(self):
        for n in SIZES:
            for s in ([1, 0], [0, 2, 1], [1, 2, 0], [2, 1, 0]):
                self.assertEqual(threes(n, s), [-22])
        self.assertEqual(threes(4, list(reversed(all_points(4)))), [-22])
        self.assertEqual(threes(4, all_points(4)[:79] + [80, 79]), [-22])

    def test_a_number_twice(self):
        for n in SIZES:
            last = 3 ** n - 1
            for s in ([0, 0], [0, 0, 1], [0, 1, 1], [0, 1, 0], [last, last], all_points(n) + [last]):
                self.assertEqual(threes(n, s), [-22])

    def test_the_last_point_and_no_point(self):
        for n in SIZES:
            last = 3 ** n - 1
            self.assertEqual(threes(n, [last]), [0])
            self.assertEqual(threes(n, [last - 2, last - 1, last]), [1, last - 2, last - 1, last])
            for beyond in (last + 1, last + 2, LARGEST):
                self.assertEqual(threes(n, [beyond]), [-22])
                self.assertEqual(threes(n, [0, beyond]), [-22])
                self.assertEqual(threes(n, [beyond, 0]), [-22])
                self.assertEqual(threes(n, all_points(n) + [beyond]), [-22])

    def test_lists_of_100(self):
        for n in SIZES:
            for s in (list(range(100)), [0] * 100, [LARGEST] * 100,
                      list(range(LARGEST - 99, LARGEST + 1)), list(range(99, -1, -1))):
                self.assertEqual(len(s), 100)
                self.assertEqual(threes(n, s), [-22])


if __name__ == "__main__":
    unittest.main()
