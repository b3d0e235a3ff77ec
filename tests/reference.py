"""What the document says of points, done by trying out: slow, and apart from the package."""

from fractions import Fraction
from itertools import combinations, permutations, product
from math import floor

LARGEST = 4294967295
SIZES = (1, 2, 3, 4)

# No three in a line, and no other set of points of n numbers without them has more points.
GREATEST = {
    1: [1, 2],
    2: [0, 1, 5, 8],
    3: [0, 1, 3, 4, 11, 14, 15, 16, 26],
    4: [1, 2, 29, 32, 33, 37, 40, 44, 46, 49, 53, 55, 57, 61, 65, 67, 71, 74, 76, 80],
}

# No three in a line, and no point may be added, yet these are not the greatest.
WHOLE_BUT_SMALL = {
    3: [0, 1, 3, 4, 9, 10, 12, 13],
    4: [0, 1, 3, 4, 9, 10, 12, 13, 27, 28, 30, 31, 36, 37, 39, 40],
}


def all_points(n):
    return list(range(3 ** n))


def numbers(n, point):
    """The n numbers of a point, found among all rows of n numbers."""
    for row in product((0, 1, 2), repeat=n):
        if sum(value * 3 ** i for i, value in enumerate(row)) == point:
            return row
    raise AssertionError("no such point")


ROWS = {n: [numbers(n, point) for point in all_points(n)] for n in SIZES}


def make_zero(n, points):
    """Whether the numbers of the three points are together 0, place by place."""
    return all(sum(place) % 3 == 0 for place in zip(*[ROWS[n][point] for point in points]))


def thirds(n, x, y):
    """All points that make 0 with x and y."""
    return [z for z in all_points(n) if make_zero(n, (x, y, z))]


def threes(n, s):
    lines = [line for line in combinations(s, 3) if make_zero(n, line)]
    return [len(lines)] + [point for line in lines for point in line]


def may(n, s):
    free = [z for z in all_points(n) if z not in s
            and not any(make_zero(n, (x, y, z)) for x, y in combinations(s, 2))]
    return [len(free)] + free


def filled(n, s):
    full = list(s)
    for point in all_points(n):
        if point in may(n, full)[1:]:
            full = sorted(full + [point])
    return [len(full)] + full


def whole(n, s):
    return [int(threes(n, s) == [0] and may(n, s) == [0])]


def most(n):
    """The most points of a set without three in a line, found by growing every set that could have more."""
    third = {(x, y): thirds(n, x, y)[0] for x in all_points(n) for y in all_points(n)}

    def grown(s, free, best):
        best = max(best, len(s))
        for i, point in enumerate(free):
            if len(s) + len(free) - i <= best:
                break
            barred = [third[point, member] for member in s]
            best = grown(s + [point], [x for x in free[i + 1:] if x not in barred], best)
        return best

    return grown([], all_points(n), 0)


def rooms(n, d):
    return [len([row for row in product((0, 1, 2), repeat=n) if sum(row) <= d])]


def bound(n):
    return [3 * rooms(n, floor(Fraction(2, 3) * n))[0]]


def moved_row(row, q, m, a):
    """What the numbers of a point become, number by number."""
    return tuple((row[q[i]] * m[i] + a[i]) % 3 for i in range(len(row)))


def moved(n, q, m, a, s):
    images = [z for z in all_points(n) if any(ROWS[n][z] == moved_row(ROWS[n][x], q, m, a) for x in s)]
    return [len(s)] + images


def moves(n):
    """All q, m and a that move points of n numbers."""
    return [(list(q), list(m), list(a))
            for q in permutations(range(n))
            for m in product((1, 2), repeat=n)
            for a in product((0, 1, 2), repeat=n)]


def subsets(row):
    """All sets of the row's points, each rising."""
    found = [[]]
    for point in row:
        found = found + [s + [point] for s in found]
    return found


def picked(n, step, offset):
    """A set that is neither regular nor full, the same at each run."""
    return [point for point in all_points(n) if (point * point + offset * point) % step < step // 2]


def without_lines(n):
    """Sets without three in a line, small ones and whole ones, that don't begin with the lowest points."""
    found = []
    for stride in (1, 2, 5, 7, 13, 25):
        s = []
        for i in all_points(n):
            point = (i * stride + stride) % 3 ** n
            if point not in s and threes(n, sorted(s + [point])) == [0]:
                s = sorted(s + [point])
                found.append(s)
    return found


def whole_sets(n):
    """The whole sets that are known here: greatest ones, smaller ones, and those that grew from other sets."""
    known = [GREATEST[n]] + without_lines(n)
    if n in WHOLE_BUT_SMALL:
        known.append(WHOLE_BUT_SMALL[n])
    if n <= 2:
        known = known + subsets(all_points(n))
    return [s for s in known if whole(n, s) == [1]]


def not_sets(n):
    """Lists that are no sets of points of n numbers: not rising, a number twice, a number that is no point."""
    last = 3 ** n - 1
    return (
        [1, 0], [0, 2, 1], [1, 2, 0], [2, 1, 0], list(range(last, -1, -1)),
        [0, 0], [0, 0, 1], [0, 1, 1], [0, 1, 0], [last, last], all_points(n) + [last],
        [last + 1], [0, last + 1], [last + 1, 0], [0, LARGEST], [LARGEST], all_points(n) + [last + 1],
    ) + lists_of_100()


def lists_of_100():
    """Lists of 100 numbers: whatever n is, none of them is a set."""
    return (list(range(100)), [0] * 100, [LARGEST] * 100,
            list(range(LARGEST - 99, LARGEST + 1)), list(range(99, -1, -1)))
