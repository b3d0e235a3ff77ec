"""What holds for each call: nothing is kept, nothing handed in is changed, nothing is printed, read or imported."""

import ast
import builtins
import contextlib
import copy
import inspect
import io
import pathlib
import unittest
from unittest import mock

import nothreelines
from nothreelines import points
from reference import LARGEST, all_points

CALLS = (
    ("third", (2, 1, 3)),
    ("third", (4, 80, 80)),
    ("third", (1, 3, 0)),
    ("third", (5, 0, 0)),
    ("threes", (1, [])),
    ("threes", (2, [0, 1, 2, 3, 6])),
    ("threes", (4, all_points(4))),
    ("threes", (2, [2, 1])),
    ("threes", (3, list(range(100)))),
    ("threes", (LARGEST, [0, 1])),
    ("may", (1, [])),
    ("may", (2, [0, 1, 3])),
    ("may", (4, [40])),
    ("may", (3, [0, 1, 2])),
    ("may", (4, list(range(100)))),
    ("may", (5, [0, 1, 2])),
    ("filled", (1, [])),
    ("filled", (2, [7, 8])),
    ("filled", (3, [26])),
    ("filled", (4, [0, 80])),
    ("filled", (4, all_points(4))),
    ("filled", (2, [8, 7])),
    ("filled", (0, [])),
    ("whole", (1, [])),
    ("whole", (2, [0, 1, 3, 4])),
    ("whole", (4, [0, 80])),
    ("whole", (4, all_points(4))),
    ("whole", (3, [0, 0])),
    ("whole", (5, [])),
    ("most", (0,)),
    ("most", (1,)),
    ("most", (2,)),
    ("most", (3,)),
    ("most", (4,)),
    ("most", (LARGEST,)),
    ("bound", (0,)),
    ("bound", (1,)),
    ("bound", (2,)),
    ("bound", (3,)),
    ("bound", (4,)),
    ("bound", (LARGEST,)),
    ("rooms", (1, 0)),
    ("rooms", (3, 2)),
    ("rooms", (4, 5)),
    ("rooms", (4, LARGEST)),
    ("rooms", (0, 0)),
    ("rooms", (5, 2)),
    ("rooms", (LARGEST, LARGEST)),
    ("moved", (1, [0], [1], [0], [])),
    ("moved", (2, [0, 1], [1, 1], [0, 0], [0, 1, 5])),
    ("moved", (3, [2, 0, 1], [2, 1, 2], [1, 2, 0], [0, 5, 13, 26])),
    ("moved", (4, [3, 1, 0, 2], [1, 2, 2, 1], [2, 0, 1, 1], all_points(4))),
    ("moved", (0, [], [], [], [])),
    ("moved", (2, [1, 1], [1, 2], [0, 1], [3, 4])),
    ("moved", (2, [1, 0], [1, 0], [0, 1], [3, 4])),
    ("moved", (2, [1, 0], [1, 2], [0, 3], [3, 4])),
    ("moved", (2, [1, 0], [1, 2], [0, 1], [4, 3])),
    ("moved", (4, list(range(100)), [1] * 100, [0] * 100, list(range(100)))),
    ("moved", (LARGEST, [0], [1], [0], [0])),
)

PARAMETERS = {
    "third": ["n", "x", "y"],
    "threes": ["n", "s"],
    "may": ["n", "s"],
    "filled": ["n", "s"],
    "whole": ["n", "s"],
    "most": ["n"],
    "bound": ["n"],
    "rooms": ["n", "d"],
    "moved": ["n", "q", "m", "a", "s"],
}


def answer_of(call):
    name, handed = call
    return getattr(points, name)(*copy.deepcopy(handed))


def refuse(*args, **kwargs):
    raise AssertionError("this is not to be called")


class Untouched(list):
    """A list that can't be changed, not for a while either."""

    __setitem__ = __delitem__ = __iadd__ = __imul__ = refuse
    append = extend = insert = pop = remove = clear = sort = reverse = refuse


class Interface(unittest.TestCase):
    def test_names_and_arguments(self):
        for name, parameters in PARAMETERS.items():
            found = inspect.signature(getattr(points, name)).parameters
            self.assertEqual(list(found), parameters)

    def test_arguments_by_name(self):
        self.assertEqual(points.third(n=1, x=0, y=1), [2])
        self.assertEqual(points.threes(n=1, s=[0, 1, 2]), [1, 0, 1, 2])
        self.assertEqual(points.may(n=1, s=[1]), [2, 0, 2])
        self.assertEqual(points.filled(n=1, s=[1]), [2, 0, 1])
        self.assertEqual(points.whole(n=1, s=[0, 1]), [1])
        self.assertEqual(points.most(n=1), [2])
        self.assertEqual(points.bound(n=1), [3])
        self.assertEqual(points.rooms(n=1, d=1), [2])
        self.assertEqual(points.moved(n=1, q=[0], m=[2], a=[1], s=[1, 2]), [2, 0, 2])

    def test_each_call_is_tried(self):
        self.assertEqual({name for name, handed in CALLS}, set(PARAMETERS))

    def test_one_list_of_ints(self):
        for call in CALLS:
            answer = answer_of(call)
            self.assertIs(type(answer), list, call)
            self.assertEqual({type(value) for value in answer}, {int}, call)

    def test_below_0_is_a_refusal_alone(self):
        for call in CALLS:
            answer = answer_of(call)
            if min(answer) < 0:
                self.assertEqual(len(answer), 1, call)


class NothingIsChanged(unittest.TestCase):
    def test_what_is_handed_in_stays(self):
        for name, handed in CALLS:
            before = copy.deepcopy(handed)
            getattr(points, name)(*handed)
            self.assertEqual(handed, before)

    def test_not_for_a_while_either(self):
        for name, handed in CALLS:
            guarded = [Untouched(value) if isinstance(value, list) else value for value in handed]
            self.assertEqual(getattr(points, name)(*guarded), answer_of((name, handed)))

    def test_the_answer_is_a_list_of_its_own(self):
        for s in ([], [0], [0, 1, 2], [1, 0]):
            for call in (points.threes, points.may, points.filled, points.whole):
                self.assertIsNot(call(1, s), s)
            self.assertIsNot(points.moved(1, [0], [1], [0], s), s)


class NothingIsKept(unittest.TestCase):
    def test_the_same_whatever_was_called_before(self):
        alone = [answer_of(call) for call in CALLS]
        for before in CALLS:
            for call, due in zip(CALLS, alone):
                answer_of(before)
                self.assertEqual(answer_of(call), due, (before, call))

    def test_a_changed_answer_changes_no_later_one(self):
        for call in CALLS:
            first = answer_of(call)
            due = list(first)
            first.append(7)
            first[0] = 9
            self.assertEqual(answer_of(call), due)

    def test_a_list_changed_between_two_calls(self):
        s = [0, 1, 2]
        self.assertEqual(points.threes(2, s), [1, 0, 1, 2])
        s[2] = 3
        self.assertEqual(points.threes(2, s), [0])
        s.append(6)
        self.assertEqual(points.threes(2, s), [1, 0, 3, 6])

    def test_a_list_filled_between_two_calls(self):
        s = [8]
        self.assertEqual(points.may(2, s), [8, 0, 1, 2, 3, 4, 5, 6, 7])
        self.assertEqual(points.filled(2, s), [4, 0, 1, 5, 8])
        s[0] = 7
        self.assertEqual(points.may(2, s), [8, 0, 1, 2, 3, 4, 5, 6, 8])
        self.assertEqual(points.filled(2, s), [4, 0, 1, 3, 7])
        s.append(8)
        self.assertEqual(points.may(2, s), [6, 0, 1, 2, 3, 4, 5])
        self.assertEqual(points.filled(2, s), [4, 0, 1, 7, 8])

    def test_a_list_made_whole_between_two_calls(self):
        s = [0]
        self.assertEqual(points.whole(1, s), [0])
        s.append(2)
        self.assertEqual(points.whole(1, s), [1])
        s[1] = 0
        self.assertEqual(points.whole(1, s), [-22])

    def test_a_list_moved_between_two_calls(self):
        q, m, a, s = [0, 1], [1, 1], [0, 0], [1, 5]
        self.assertEqual(points.moved(2, q, m, a, s), [2, 1, 5])
        q.reverse()
        self.assertEqual(points.moved(2, q, m, a, s), [2, 3, 7])
        m[0] = 2
        self.assertEqual(points.moved(2, q, m, a, s), [2, 3, 8])
        a[1] = 1
        self.assertEqual(points.moved(2, q, m, a, s), [2, 2, 6])
        s.append(6)
        self.assertEqual(points.moved(2, q, m, a, s), [3, 2, 4, 6])
        s.append(6)
        self.assertEqual(points.moved(2, q, m, a, s), [-22])

    def test_the_module_stays_as_it_was(self):
        def held():
            return {name: copy.deepcopy(value) for name, value in vars(points).items()
                    if not name.startswith("__")}
        before = held()
        for call in CALLS:
            answer_of(call)
        self.assertEqual(held(), before)


class NothingElseIsDone(unittest.TestCase):
    def test_nothing_is_printed_or_read(self):
        out = io.StringIO()
        with contextlib.redirect_stdout(out), contextlib.redirect_stderr(out), \
                mock.patch.object(builtins, "open", refuse), mock.patch.object(builtins, "input", refuse):
            for call in CALLS:
                answer_of(call)
        self.assertEqual(out.getvalue(), "")

    def test_nothing_is_imported(self):
        folder = pathlib.Path(nothreelines.__file__).parent
        files = sorted(folder.rglob("*.py"))
        self.assertIn(folder / "points.py", files)
        for file in files:
            for node in ast.walk(ast.parse(file.read_text(encoding="utf-8"))):
                self.assertNotIsInstance(node, (ast.Import, ast.ImportFrom), file)


if __name__ == "__main__":
    unittest.main()
