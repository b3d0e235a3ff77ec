"""The call third."""

import unittest

from nothreelines.points import third
from reference import LARGEST, SIZES, all_points, thirds


class Answers(unittest.TestCase):
    def test_written_out(self):
        self.assertEqual(third(1, 0, 1), [2])
        self.assertEqual(third(1, 2, 2), [2])
        self.assertEqual(third(2, 1, 3), [8])
        self.assertEqual(third(2, 5, 7), [0])
        self.assertEqual(third(3, 0, 26), [13])
        self.assertEqual(third(3, 1, 9), [20])
        self.assertEqual(third(4, 0, 1), [2])
        self.assertEqual(third(4, 1, 27), [56])
        self.assertEqual(third(4, 40, 80), [0])

    def test_the_first_number_weighs_least(self):
        self.assertEqual(third(2, 0, 1), [2])
        self.assertEqual(third(2, 0, 3), [6])
        self.assertEqual(third(3, 0, 9), [18])
        self.assertEqual(third(4, 0, 27), [54])

    def test_the_one_point_that_makes_zero(self):
        for n in SIZES:
            for x in all_points(n):
                for y in all_points(n):
                    self.assertEqual(third(n, x, y), thirds(n, x, y), (n, x, y))

    def test_of_two_one_is_the_third_of_the_others(self):
        for n in SIZES:
            for x in all_points(n):
                for y in all_points(n):
                    z = third(n, x, y)[0]
                    self.assertEqual(third(n, y, x), [z])
                    self.assertEqual(third(n, x, z), [y])
                    self.assertEqual(third(n, y, z), [x])

    def test_one_of_them_just_if_they_are_one(self):
        for n in SIZES:
            for x in all_points(n):
                for y in all_points(n):
                    self.assertEqual(third(n, x, y)[0] in (x, y), x == y, (n, x, y))

    def test_a_point_twice_is_its_own_third(self):
        for n in SIZES:
            for x in all_points(n):
                self.assertEqual(third(n, x, x), [x])

    def test_one_list_of_one_int(self):
        for answer in (third(1, 0, 0), third(4, 80, 0), third(0, 0, 0), third(1, 3, 0)):
            self.assertIs(type(answer), list)
            self.assertEqual([type(value) for value in answer], [int])


class Refusals(unittest.TestCase):
    def test_n_is_not_1_to_4(self):
        for n in (0, 5, 6, 100, LARGEST):
            self.assertEqual(third(n, 0, 0), [-22])
            self.assertEqual(third(n, 1, 2), [-22])

    def test_the_last_point_and_one_beyond(self):
        for n in SIZES:
            last = 3 ** n - 1
            self.assertEqual(third(n, last, last), [last])
            self.assertEqual(third(n, last, 0), [last // 2])
            self.assertEqual(third(n, 0, last), [last // 2])
            for beyond in (last + 1, last + 2, LARGEST):
                self.assertEqual(third(n, beyond, 0), [-2])
                self.assertEqual(third(n, 0, beyond), [-2])
                self.assertEqual(third(n, beyond, last), [-2])
                self.assertEqual(third(n, last, beyond), [-2])
                self.assertEqual(third(n, beyond, beyond), [-2])

    def test_both_due(self):
        for n in (0, 5, LARGEST):
            for beyond in (81, 243, LARGEST):
                self.assertEqual(third(n, beyond, 0), [-22])
                self.assertEqual(third(n, 0, beyond), [-22])
                self.assertEqual(third(n, beyond, beyond), [-22])


if __name__ == "__main__":
    unittest.main()
