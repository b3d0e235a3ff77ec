"""The call moved."""

import copy
import unittest
from itertools import permutations, product

import reference
from nothreelines.points import moved, threes, whole
from reference import (GREATEST, LARGEST, ROWS, SIZES, WHOLE_BUT_SMALL, all_points, lists_of_100, moved_row, moves,
                       not_sets, picked, subsets, without_lines)

# For each n moves that change the order and moves that don't, with other numbers from place to place.
CHOSEN = {
    1: (([0], [1], [0]), ([0], [1], [1]), ([0], [2], [0]), ([0], [2], [2])),
    2: (([0, 1], [1, 2], [2, 1]), ([1, 0], [1, 2], [0, 1]), ([1, 0], [2, 1], [2, 0]), ([1, 0], [1, 1], [0, 0])),
    3: (([0, 1, 2], [2, 1, 2], [0, 1, 2]), ([1, 2, 0], [1, 2, 1], [0, 1, 2]), ([2, 0, 1], [1, 1, 2], [2, 0, 1]),
        ([0, 2, 1], [2, 2, 1], [1, 2, 0])),
    4: (([0, 1, 2, 3], [1, 2, 1, 2], [0, 1, 2, 1]), ([1, 2, 3, 0], [1, 2, 2, 1], [0, 1, 2, 0]),
        ([3, 0, 1, 2], [2, 1, 1, 2], [2, 0, 1, 1]), ([2, 0, 3, 1], [1, 1, 2, 1], [1, 2, 0, 2])),
}


def plain(n):
    """The move that leaves each point where it is."""
    return list(range(n)), [1] * n, [0] * n


def some_sets(n):
    """Sets with and without three in a line: none, one point, few, many, all points, whole ones."""
    last = 3 ** n - 1
    found = [[], [0], [last], [0, 1, 2], [0, last // 2, last], [last - 1, last], all_points(n), GREATEST[n]]
    found = found + [picked(n, step, offset) for step in (5, 7, 11) for offset in (0, 1)]
    return found + ([WHOLE_BUT_SMALL[n]] if n in WHOLE_BUT_SMALL else [])


class Answers(unittest.TestCase):
    def test_written_out(self):
        self.assertEqual(moved(1, [0], [2], [0], [0, 1]), [2, 0, 2])
        self.assertEqual(moved(1, [0], [1], [1], [1, 2]), [2, 0, 2])
        self.assertEqual(moved(1, [0], [2], [2], [0, 1]), [2, 1, 2])
        self.assertEqual(moved(2, [1, 0], [1, 2], [0, 1], [1, 5]), [2, 0, 7])
        self.assertEqual(moved(2, [0, 1], [1, 2], [2, 1], [0, 5]), [2, 1, 5])
        self.assertEqual(moved(3, [1, 2, 0], [1, 2, 1], [0, 1, 2], [1, 5]), [2, 3, 13])
        self.assertEqual(moved(4, [1, 2, 3, 0], [1, 2, 2, 1], [0, 1, 2, 0], [1, 3, 80]), [3, 22, 48, 62])

    def test_number_i_becomes_what_number_q_of_i_was(self):
        # Number 0 alone is 1: it comes to the place whose q is 0.
        self.assertEqual(moved(3, [1, 2, 0], [1, 1, 1], [0, 0, 0], [1]), [1, 9])
        self.assertEqual(moved(3, [2, 0, 1], [1, 1, 1], [0, 0, 0], [1]), [1, 3])
        self.assertEqual(moved(4, [1, 2, 3, 0], [1, 1, 1, 1], [0, 0, 0, 0], [1]), [1, 27])
        self.assertEqual(moved(4, [3, 0, 1, 2], [1, 1, 1, 1], [0, 0, 0, 0], [1]), [1, 3])

    def test_times_and_more_are_of_the_new_place(self):
        self.assertEqual(moved(2, [1, 0], [2, 1], [0, 0], [1]), [1, 3])
        self.assertEqual(moved(2, [1, 0], [1, 2], [0, 0], [1]), [1, 6])
        self.assertEqual(moved(2, [1, 0], [1, 1], [1, 0], [0]), [1, 1])
        self.assertEqual(moved(2, [1, 0], [1, 1], [0, 2], [0]), [1, 6])

    def test_times_comes_ahead_of_more(self):
        self.assertEqual(moved(1, [0], [2], [1], [0]), [1, 1])
        self.assertEqual(moved(1, [0], [2], [1], [1]), [1, 0])
        self.assertEqual(moved(1, [0], [2], [1], [2]), [1, 2])

    def test_number_by_number(self):
        for n in SIZES:
            for q, m, a in CHOSEN[n]:
                for x in all_points(n):
                    count, y = moved(n, q, m, a, [x])
                    self.assertEqual(count, 1)
                    for i in range(n):
                        self.assertEqual(ROWS[n][y][i], (ROWS[n][x][q[i]] * m[i] + a[i]) % 3, (n, q, m, a, x))

    def test_chosen_moves_of_many_sets(self):
        for n in SIZES:
            for q, m, a in CHOSEN[n]:
                for s in some_sets(n) + without_lines(n):
                    self.assertEqual(moved(n, q, m, a, s), reference.moved(n, q, m, a, s), (n, q, m, a, s))

    def test_every_move_of_every_set_of_few_points(self):
        for n in (1, 2):
            for q, m, a in moves(n):
                for s in subsets(all_points(n)):
                    self.assertEqual(moved(n, q, m, a, s), reference.moved(n, q, m, a, s), (n, q, m, a, s))

    def test_every_move_of_3_numbers(self):
        for q, m, a in moves(3):
            for s in ([0, 1, 3, 9], [5, 15, 19], all_points(3)):
                self.assertEqual(moved(3, q, m, a, s), reference.moved(3, q, m, a, s), (q, m, a, s))

    def test_every_move_of_4_numbers(self):
        place = {row: point for point, row in enumerate(ROWS[4])}
        s = [0, 1, 3, 9, 59]
        for q, m, a in moves(4):
            images = sorted(place[moved_row(ROWS[4][x], q, m, a)] for x in s)
            self.assertEqual(moved(4, q, m, a, s), [5] + images, (q, m, a))

    def test_the_plain_move_leaves_each_set(self):
        for n in SIZES:
            for s in some_sets(n) + without_lines(n):
                self.assertEqual(moved(n, *plain(n), s), [len(s)] + s)

    def test_rising_whatever_the_order_was(self):
        self.assertEqual(moved(1, [0], [2], [2], [0, 1, 2]), [3, 0, 1, 2])
        self.assertEqual(moved(2, [0, 1], [1, 1], [1, 1], [0, 4, 8]), [3, 0, 4, 8])
        self.assertEqual(moved(2, [1, 0], [1, 1], [0, 0], [1, 2, 3]), [3, 1, 3, 6])

    def test_the_empty_set(self):
        for n in SIZES:
            for q, m, a in CHOSEN[n]:
                self.assertEqual(moved(n, q, m, a, []), [0])

    def test_all_points(self):
        for n in SIZES:
            for q, m, a in CHOSEN[n]:
                self.assertEqual(moved(n, q, m, a, all_points(n)), [3 ** n] + all_points(n))

    def test_one_list_for_several_arguments(self):
        for row in ([0, 1], [1, 0]):
            self.assertEqual(moved(2, row, [1, 2], row, [0, 1]), reference.moved(2, row, [1, 2], row, [0, 1]))
        same = [0, 1]
        self.assertEqual(moved(2, same, [2, 1], same, same), reference.moved(2, same, [2, 1], same, same))
        same = [1, 2]
        self.assertEqual(moved(2, [1, 0], same, same, same), reference.moved(2, [1, 0], same, same, same))


class WhatHolds(unittest.TestCase):
    def check(self, n, q, m, a, s):
        answer = moved(n, q, m, a, s)
        images = answer[1:]
        self.assertEqual(answer[0], len(s))
        self.assertEqual(len(images), len(s))
        self.assertEqual(images, sorted(set(images)))
        self.assertTrue(set(images) <= set(all_points(n)))
        self.assertEqual(threes(n, images)[0], threes(n, s)[0], (n, q, m, a, s))
        self.assertEqual(whole(n, images), whole(n, s), (n, q, m, a, s))

    def test_as_many_points_and_as_many_threes(self):
        for n in SIZES:
            for q, m, a in CHOSEN[n]:
                for s in some_sets(n):
                    self.check(n, q, m, a, s)

    def test_as_many_after_each_move_of_few_numbers(self):
        for n in (1, 2):
            for q, m, a in moves(n):
                for s in some_sets(n):
                    self.check(n, q, m, a, s)
        for q, m, a in moves(3):
            self.check(3, q, m, a, [0, 1, 2, 5, 13, 26])

    def test_a_whole_set_that_is_not_the_greatest(self):
        for n, s in WHOLE_BUT_SMALL.items():
            for q, m, a in CHOSEN[n]:
                images = moved(n, q, m, a, s)[1:]
                self.assertEqual(len(images), len(s))
                self.assertEqual(threes(n, images), [0])
                self.assertEqual(whole(n, images), [1])

    def test_moved_again_it_is_moved_back(self):
        for n in SIZES:
            order, ones, zeros = plain(n)
            for q, m, a in CHOSEN[n]:
                for s in some_sets(n):
                    # What was added is taken off, then what was doubled is doubled again, then the order is undone.
                    off = moved(n, order, ones, [(3 - more) % 3 for more in a], moved(n, q, m, a, s)[1:])[1:]
                    once = moved(n, order, m, zeros, off)[1:]
                    back = moved(n, [q.index(i) for i in range(n)], ones, zeros, once)
                    self.assertEqual(back, [len(s)] + s, (n, q, m, a, s))


class NothingIsChanged(unittest.TestCase):
    def test_all_four_lists_stay(self):
        for n in SIZES:
            for q, m, a in CHOSEN[n] + (([n], [0], [3]), ([], [], []), ([0] * 100, [3] * 100, [3] * 100)):
                for s in some_sets(n) + [[1, 0], [2, 2], list(range(100))]:
                    handed = [q, m, a, s]
                    before = copy.deepcopy(handed)
                    moved(n, *handed)
                    self.assertEqual(handed, before)


class Refusals(unittest.TestCase):
    def wrong_q(self, n):
        order = list(range(n))
        return ([], order[:-1], order[1:], order + [n], order + [0], [0] + order, [0] * (n + 1), order[:-1] + [n],
                order[:-1] + [LARGEST], [n] + order[1:], [LARGEST] + order[1:], list(range(1, n + 1)),
                [LARGEST] * n) + lists_of_100()

    def wrong_m(self, n):
        return ([], [1] * (n - 1), [2] * (n - 1), [1] * (n + 1), [2] * (n + 1), [1] * 100, [2] * 100,
                [0] * n, [3] * n, [LARGEST] * n) + tuple(
            [1] * i + [wrong] + [2] * (n - 1 - i) for i in range(n) for wrong in (0, 3, 4, LARGEST)) + lists_of_100()

    def wrong_a(self, n):
        return ([], [0] * (n - 1), [2] * (n - 1), [0] * (n + 1), [1] * (n + 1), [0] * 100, [2] * 100,
                [3] * n, [LARGEST] * n) + tuple(
            [0] * i + [wrong] + [2] * (n - 1 - i) for i in range(n) for wrong in (3, 4, 5, LARGEST)) + lists_of_100()

    def test_n_is_not_1_to_4(self):
        for n in (0, 5, LARGEST):
            for row in ([], [0], list(range(5))):
                for s in ([], [0], [0, 1, 2], [1, 0], list(range(100))):
                    self.assertEqual(moved(n, row, [1] * len(row), [0] * len(row), s), [-22])
        for q, m, a in moves(3)[::50] + moves(4)[::1000]:
            for n in (0, 5, 6, 100, LARGEST):
                self.assertEqual(moved(n, q, m, a, [0, 1]), [-22])

    def test_n_does_not_fit_the_move(self):
        for n, of in product(SIZES, SIZES):
            for q, m, a in CHOSEN[of]:
                answer = moved(n, q, m, a, [0])
                self.assertEqual(answer == [-22], n != of, (n, q, m, a))

    def test_s_is_not_a_set(self):
        for n in SIZES:
            for q, m, a in CHOSEN[n]:
                for s in not_sets(n):
                    self.assertEqual(moved(n, q, m, a, s), [-22], (n, s))

    def test_the_last_point_and_one_beyond(self):
        for n in SIZES:
            last = 3 ** n - 1
            self.assertEqual(moved(n, *plain(n), [last]), [1, last])
            for beyond in (last + 1, last + 2, LARGEST):
                self.assertEqual(moved(n, *plain(n), [beyond]), [-22])

    def test_q_is_not_an_order(self):
        for n in SIZES:
            order, m, a = plain(n)
            for q in self.wrong_q(n):
                for s in ([], [0], GREATEST[n]):
                    self.assertEqual(moved(n, q, m, a, s), [-22], (n, q))

    def test_just_the_orders_are_taken(self):
        for n in SIZES:
            for q in product(range(n + 1), repeat=n):
                taken = moved(n, list(q), [1] * n, [0] * n, [0]) == [1, 0]
                self.assertEqual(taken, q in permutations(range(n)), (n, q))
                self.assertEqual(moved(n, list(q), [1] * n, [0] * n, [0]) == [-22], not taken)

    def test_m_is_not_n_numbers_1_or_2(self):
        for n in SIZES:
            q, ones, a = plain(n)
            for m in self.wrong_m(n):
                for s in ([], [0], GREATEST[n]):
                    self.assertEqual(moved(n, q, m, a, s), [-22], (n, m))

    def test_a_is_not_n_numbers_0_to_2(self):
        for n in SIZES:
            q, m, zeros = plain(n)
            for a in self.wrong_a(n):
                for s in ([], [0], GREATEST[n]):
                    self.assertEqual(moved(n, q, m, a, s), [-22], (n, a))

    def test_several_at_once(self):
        for n in SIZES:
            q, m, a = plain(n)
            for wrong_q, wrong_m, wrong_a in zip(self.wrong_q(n), self.wrong_m(n), self.wrong_a(n)):
                for s in ([], [0], [1, 0], [0, 0], [3 ** n], list(range(100))):
                    self.assertEqual(moved(n, wrong_q, wrong_m, a, s), [-22])
                    self.assertEqual(moved(n, wrong_q, m, wrong_a, s), [-22])
                    self.assertEqual(moved(n, q, wrong_m, wrong_a, s), [-22])
                    self.assertEqual(moved(n, wrong_q, wrong_m, wrong_a, s), [-22])
                for s in ([1, 0], [0, 0], [3 ** n], [LARGEST], list(range(100))):
                    self.assertEqual(moved(n, wrong_q, m, a, s), [-22])
                    self.assertEqual(moved(n, q, wrong_m, a, s), [-22])
                    self.assertEqual(moved(n, q, m, wrong_a, s), [-22])
                for out in (0, 5, LARGEST):
                    self.assertEqual(moved(out, wrong_q, wrong_m, wrong_a, [1, 0]), [-22])

    def test_lists_of_100(self):
        for n in SIZES + (0, 5, LARGEST):
            for row in lists_of_100():
                self.assertEqual(len(row), 100)
                self.assertEqual(moved(n, row, row, row, row), [-22])


if __name__ == "__main__":
    unittest.main()
