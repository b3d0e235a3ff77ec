"""Points of n numbers modulo 3: thirds, threes in a line, sets without them, how large these are, and moves."""

UNFIT = -22
NO_POINT = -2
NOT_TOLD = -28
IN_LINE = -33
MOST_NUMBERS = 4
# A table, as these never change: a search through the sets finds the same, but each call would wait for it.
MOST_POINTS = {1: 2, 2: 4, 3: 9}


def third(n, x, y):
    """Answer the third of the points x and y."""
    if not has_points(n):
        return [UNFIT]
    if not is_point(n, x) or not is_point(n, y):
        return [NO_POINT]
    return [third_point(n, x, y)]


def threes(n, s):
    """Answer how many threes in a line the set s has, then the points of each."""
    if not has_points(n) or not is_set(n, s):
        return [UNFIT]
    lines = lines_of(n, s)
    answer = [len(lines)]
    for line in lines:
        answer.extend(line)
    return answer


def may(n, s):
    """Answer how many points may be added to the set s, then these."""
    if not has_points(n) or not is_set(n, s):
        return [UNFIT]
    if has_line(n, s):
        return [IN_LINE]
    free = free_points(n, s)
    return [len(free)] + free


def filled(n, s):
    """Answer how many points the set s has when it is filled, then these."""
    if not has_points(n) or not is_set(n, s):
        return [UNFIT]
    if has_line(n, s):
        return [IN_LINE]
    full = fill(n, s)
    return [len(full)] + full


def whole(n, s):
    """Answer 1 if the set s has no three in a line and no point may be added to it, else 0."""
    if not has_points(n) or not is_set(n, s):
        return [UNFIT]
    if has_line(n, s) or len(free_points(n, s)) > 0:
        return [0]
    return [1]


def most(n):
    """Answer the most points that a set without three in a line has."""
    if not has_points(n):
        return [UNFIT]
    if n not in MOST_POINTS:
        return [NOT_TOLD]
    return [MOST_POINTS[n]]


def bound(n):
    """Answer three times the rooms for two thirds of n, rounded down."""
    if not has_points(n):
        return [UNFIT]
    return [3 * room_count(n, 2 * n // 3)]


def rooms(n, d):
    """Answer how many rows of n numbers 0, 1, 2 are d at most together."""
    if not has_points(n):
        return [UNFIT]
    return [room_count(n, d)]


def moved(n, q, m, a, s):
    """Answer how many points the set s has, then these moved, rising."""
    if not has_points(n) or not is_set(n, s):
        return [UNFIT]
    if not is_order(n, q) or not is_row(n, m, 1) or not is_row(n, a, 0):
        return [UNFIT]
    images = sorted([moved_point(n, q, m, a, point) for point in s])
    return [len(images)] + images


def has_points(n):
    """Tell whether points may have n numbers."""
    return 1 <= n and n <= MOST_NUMBERS


def point_count(n):
    """Count the points of n numbers; n must be fit, or the loop is as long as n."""
    count = 1
    for i in range(n):
        count = count * 3
    return count


def is_point(n, x):
    """Tell whether x is the number of a point."""
    return 0 <= x and x < point_count(n)


def numbers_of(n, point):
    """List the n numbers of the point, the first one first."""
    numbers = []
    rest = point
    for i in range(n):
        numbers.append(rest % 3)
        rest = rest // 3
    return numbers


def point_of(numbers):
    """Give the point that has these numbers, the first one first."""
    point = 0
    for number in reversed(numbers):
        point = point * 3 + number
    return point


def is_set(n, s):
    """Tell whether s is a row of points, rising."""
    count = point_count(n)
    lowest = 0
    for point in s:
        if point < lowest or point >= count:
            return False
        lowest = point + 1
    return True


def is_order(n, q):
    """Tell whether q is the numbers from 0 to n - 1 in some order."""
    return sorted(q) == list(range(n))


def is_row(n, row, lowest):
    """Tell whether the row is n numbers from the lowest to 2."""
    return len(row) == n and all([lowest <= number and number <= 2 for number in row])


def third_point(n, x, y):
    """Give the point whose numbers make 0 with those of x and y, modulo 3."""
    point = 0
    weight = 1
    for i in range(n):
        both = x // weight % 3 + y // weight % 3
        point = point + (6 - both) % 3 * weight
        weight = weight * 3
    return point


def lines_of(n, s):
    """List the threes in a line of the set s, each rising, by the first, then by the second."""
    members = {}
    for point in s:
        members[point] = True
    lines = []
    for i, first in enumerate(s):
        for second in s[i + 1:]:
            last = third_point(n, first, second)
            # Each line is met from three pairs: only the pair of its two lowest points tells it.
            if last > second and last in members:
                lines.append((first, second, last))
    return lines


def has_line(n, s):
    """Tell whether the set s has three in a line."""
    return len(lines_of(n, s)) > 0


def may_be_added(n, s, point):
    """Tell whether the point is not in s, and with no two different ones of s makes three in a line."""
    if point in s:
        return False
    for member in s:
        # The point is not the member, so their third is neither of them: it would be another one of s.
        if third_point(n, point, member) in s:
            return False
    return True


def free_points(n, s):
    """List the points that may be added to s, rising."""
    return [point for point in range(point_count(n)) if may_be_added(n, s, point)]


def fill(n, s):
    """List the points of s when it is filled, rising."""
    full = list(s)
    # One walk is enough: a point that may not be added to a set may not be added to a greater one.
    for point in range(point_count(n)):
        if may_be_added(n, full, point):
            full.append(point)
    return sorted(full)


def room_count(n, d):
    """Count the rooms for d; n must be fit."""
    # The rows of n numbers 0, 1, 2 are just those of the points, so a d however large makes no longer walk.
    return len([point for point in range(point_count(n)) if sum(numbers_of(n, point)) <= d])


def moved_point(n, q, m, a, point):
    """Give the point whose number i is number q(i) of this one, times m(i), and a(i), modulo 3."""
    numbers = numbers_of(n, point)
    return point_of([(numbers[q[i]] * m[i] + a[i]) % 3 for i in range(n)])
