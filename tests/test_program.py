"""The whole program: whatever may be handed in is answered or refused as told, in the form that is told."""

import unittest
from itertools import product

import reference
from nothreelines import points
from reference import GREATEST, LARGEST, SIZES, WHOLE_BUT_SMALL, all_points, not_sets

NUMBERS = (0, 1, 2, 3, 4, 5, 8, 9, 26, 27, 80, 81, 100, LARGEST - 1, LARGEST)
COUNTS = (0, 1, 2, 3, 4, 5, 6, 81, 100, LARGEST)
ROWS = ([], [0], [1], [2], [3], [LARGEST], [0, 1], [1, 0], [1, 2], [0, 0], [2, 0, 1], [1, 2, 1], [1, 2, 3],
        [3, 1, 0, 2], [2, 1, 1, 2], [0, 1, 2, LARGEST], [0, 1, 2, 3, 4], [1] * 5, [1] * 100)
REFUSALS = {
    "third": (-22, -2), "threes": (-22,), "may": (-22, -33), "filled": (-22, -33), "whole": (-22,),
    "most": (-22, -28), "bound": (-22,), "rooms": (-22,), "moved": (-22,),
}


def lists():
    """Sets for some n, for all, and for none."""
    found = [[], [0], [2], [0, 1], [0, 1, 2], [1, 3, 8], [0, 13, 26], [0, 40, 80], [8], [26], [80]]
    found = found + list(GREATEST.values()) + list(WHOLE_BUT_SMALL.values())
    for n in SIZES:
        found = found + [all_points(n)] + list(not_sets(n))
    return found


def is_set(n, s):
    return s == sorted(set(s)) and set(s) <= set(all_points(n))


def due_of_points(n, x, y):
    if n not in SIZES:
        return [-22]
    if x not in all_points(n) or y not in all_points(n):
        return [-2]
    return reference.thirds(n, x, y)


def due_of_set(name, n, s):
    if n not in SIZES or not is_set(n, s):
        return [-22]
    if name in ("may", "filled") and reference.threes(n, s) != [0]:
        return [-33]
    return getattr(reference, name)(n, s)


def due_of_move(n, q, m, a, s):
    if n not in SIZES or not is_set(n, s) or set(q) != set(range(n)) or (len(q), len(m), len(a)) != (n, n, n):
        return [-22]
    if not set(m) <= {1, 2} or not set(a) <= {0, 1, 2}:
        return [-22]
    return reference.moved(n, q, m, a, s)


class AnsweredOrRefused(unittest.TestCase):
    def check(self, name, handed, due):
        answer = getattr(points, name)(*handed)
        self.assertEqual(answer, due, (name, handed))
        self.assertIs(type(answer), list)
        self.assertEqual({type(value) for value in answer}, {int}, (name, handed))
        self.check_form(name, answer)

    def check_form(self, name, answer):
        if answer[0] < 0:
            self.assertEqual(len(answer), 1)
            self.assertIn(answer[0], REFUSALS[name])
            return
        self.assertGreaterEqual(min(answer), 0)
        if name == "threes":
            self.assertEqual(len(answer), 1 + 3 * answer[0])
        elif name in ("may", "filled", "moved"):
            self.assertEqual(len(answer), 1 + answer[0])
        else:
            self.assertEqual(len(answer), 1)

    def test_third(self):
        for n, x, y in product(COUNTS, NUMBERS, NUMBERS):
            self.check("third", (n, x, y), due_of_points(n, x, y))

    def test_threes_may_filled_and_whole(self):
        for name in ("threes", "may", "filled", "whole"):
            for n in COUNTS:
                for s in lists():
                    self.check(name, (n, s), due_of_set(name, n, s))

    def test_most_and_bound(self):
        for n in COUNTS:
            self.check("most", (n,), {1: [2], 2: [4], 3: [9], 4: [-28]}.get(n, [-22]))
            self.check("bound", (n,), reference.bound(n) if n in SIZES else [-22])

    def test_rooms(self):
        for n, d in product(COUNTS, NUMBERS):
            self.check("rooms", (n, d), reference.rooms(n, d) if n in SIZES else [-22])

    def test_moved(self):
        for n in (0, 1, 2, 3, 4, 5, LARGEST):
            for q, m, a in product(ROWS, repeat=3):
                s = [0, 2] if len(q) != 2 else [1, 5, 8]
                self.check("moved", (n, q, m, a, s), due_of_move(n, q, m, a, s))

    def test_moved_of_many_lists(self):
        for n in COUNTS:
            for q, m, a in (([0], [2], [1]), ([1, 0], [1, 2], [2, 0]), ([2, 0, 1], [1, 2, 1], [0, 1, 2]),
                            ([3, 1, 0, 2], [2, 1, 1, 2], [0, 2, 1, 1]), ([0, 0], [1, 2], [2, 0])):
                for s in lists():
                    self.check("moved", (n, q, m, a, s), due_of_move(n, q, m, a, s))


if __name__ == "__main__":
    unittest.main()
