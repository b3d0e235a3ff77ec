"""The call rooms."""

import json
import pathlib
import subprocess
import sys
import unittest

import nothreelines
import reference
from nothreelines.points import rooms
from reference import LARGEST, SIZES

ROOT = pathlib.Path(nothreelines.__file__).resolve().parent.parent
ASK_FOR_LARGE_D = """
from nothreelines.points import rooms
print([[n, d, rooms(n, d)] for n in (0, 1, 2, 3, 4, 5, 4294967295) for d in (4294967294, 4294967295)])
"""


class Answers(unittest.TestCase):
    def test_written_out(self):
        self.assertEqual([rooms(1, d) for d in range(4)], [[1], [2], [3], [3]])
        self.assertEqual([rooms(2, d) for d in range(6)], [[1], [3], [6], [8], [9], [9]])
        self.assertEqual([rooms(3, d) for d in range(8)], [[1], [4], [10], [17], [23], [26], [27], [27]])
        self.assertEqual(
            [rooms(4, d) for d in range(10)],
            [[1], [5], [15], [31], [50], [66], [76], [80], [81], [81]])

    def test_what_counting_through_all_rows_finds(self):
        for n in SIZES:
            for d in range(2 * n + 2):
                self.assertEqual(rooms(n, d), reference.rooms(n, d), (n, d))

    def test_0_has_one_room(self):
        for n in SIZES:
            self.assertEqual(rooms(n, 0), [1])

    def test_all_rows_from_twice_n_on_and_one_less_before(self):
        for n in SIZES:
            self.assertEqual(rooms(n, 2 * n - 1), [3 ** n - 1])
            for d in (2 * n, 2 * n + 1, 81, 100, 1000):
                self.assertEqual(rooms(n, d), [3 ** n])

    def test_a_large_d_is_answered_soon(self):
        # In a process of its own, so that a walk as long as d fails instead of lasting.
        told = subprocess.run([sys.executable, "-B", "-c", ASK_FOR_LARGE_D], cwd=ROOT,
                              capture_output=True, text=True, timeout=60, check=True)
        due = [[n, d, [3 ** n] if n in SIZES else [-22]]
               for n in (0, 1, 2, 3, 4, 5, LARGEST) for d in (LARGEST - 1, LARGEST)]
        self.assertEqual(json.loads(told.stdout), due)

    def test_as_many_rows_above_d_as_rooms_for_what_is_left(self):
        # Each number taken from 2: a row that is t together becomes one that is 2 n - t together.
        for n in SIZES:
            for d in range(2 * n):
                self.assertEqual(rooms(n, d)[0] + rooms(n, 2 * n - 1 - d)[0], 3 ** n, (n, d))


class Refusals(unittest.TestCase):
    def test_n_is_not_1_to_4(self):
        for n in (0, 5, 6, 100, LARGEST):
            for d in (0, 1, 2, 3, n, 2 * 5, LARGEST):
                self.assertEqual(rooms(n, d), [-22], (n, d))

    def test_no_d_is_refused(self):
        for n in SIZES:
            for d in (0, 1, 8, 9, 81, 100, LARGEST):
                self.assertGreaterEqual(rooms(n, d), [1])


if __name__ == "__main__":
    unittest.main()
