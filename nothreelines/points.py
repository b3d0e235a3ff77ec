"""Points of n numbers modulo 3: the third of two points, and a set's threes in a line."""

UNFIT = -22
NO_POINT = -2
MOST_NUMBERS = 4


def third(n, x, y):
    """Answer the third of the points x and y."""
    if not has_points(n):
        return [UNFIT]
    if not is_point(n, x) or not is_point(n, y):
        return [NO_POINT]
    return [third_point(n, x, y)]


def threes(n, s):
    """Answer how many threes in a line the set s has, then the points of each."""
    if not has_points(n) or not is_set(n, s):
        return [UNFIT]
    lines = lines_of(n, s)
    answer = [len(lines)]
    for line in lines:
        answer.extend(line)
    return answer


def has_points(n):
    """Tell whether points may have n numbers."""
    return 1 <= n and n <= MOST_NUMBERS


def point_count(n):
    """Count the points of n numbers; n must be fit, or the loop is as long as n."""
    count = 1
    for i in range(n):
        count = count * 3
    return count


def is_point(n, x):
    """Tell whether x is the number of a point."""
    return 0 <= x and x < point_count(n)


def is_set(n, s):
    """Tell whether s is a row of points, rising."""
    count = point_count(n)
    lowest = 0
    for point in s:
        if point < lowest or point >= count:
            return False
        lowest = point + 1
    return True


def third_point(n, x, y):
    """Give the point whose numbers make 0 with those of x and y, modulo 3."""
    point = 0
    weight = 1
    for i in range(n):
        both = x // weight % 3 + y // weight % 3
        point = point + (6 - both) % 3 * weight
        weight = weight * 3
    return point


def lines_of(n, s):
    """List the threes in a line of the set s, each rising, by the first, then by the second."""
    members = {}
    for point in s:
        members[point] = True
    lines = []
    for i, first in enumerate(s):
        for second in s[i + 1:]:
            last = third_point(n, first, second)
            # Each line is met from three pairs: only the pair of its two lowest points tells it.
            if last > second and last in members:
                lines.append((first, second, last))
    return lines
