"""What the document says of points, done by trying out: slow, and apart from the package."""

from itertools import combinations, product

LARGEST = 4294967295
SIZES = (1, 2, 3, 4)


def all_points(n):
    return list(range(3 ** n))


def numbers(n, point):
    """The n numbers of a point, found among all rows of n numbers."""
    for row in product((0, 1, 2), repeat=n):
        if sum(value * 3 ** i for i, value in enumerate(row)) == point:
            return row
    raise AssertionError("no such point")


ROWS = {n: [numbers(n, point) for point in all_points(n)] for n in SIZES}


def make_zero(n, points):
    """Whether the numbers of the three points are together 0, place by place."""
    return all(sum(place) % 3 == 0 for place in zip(*[ROWS[n][point] for point in points]))


def thirds(n, x, y):
    """All points that make 0 with x and y."""
    return [z for z in all_points(n) if make_zero(n, (x, y, z))]


def threes(n, s):
    lines = [line for line in combinations(s, 3) if make_zero(n, line)]
    return [len(lines)] + [point for line in lines for point in line]
