"""The calls: each takes the rules, and some answers where it needs them, and answers a list of whole numbers."""

WRONGLY_TOLD = -22
MOST_QUESTIONS = 5


def how_many_rows(m):
    rows = 1
    for question in range(m):
        rows = rows * 2
    return rows


def rules_are_right(m, ok):
    # m comes first: it may be so great that its rows could not be counted.
    if m < 1 or m > MOST_QUESTIONS:
        return False
    if len(ok) == 0 or max(ok) >= how_many_rows(m):
        return False
    return len(set(ok)) == len(ok)


def answers_are_right(m, a, b):
    # Where b has no question that a hasn't, b is no greater than a, so a's bound is b's too.
    return a < how_many_rows(m) and (a & b) == b


def rows_that_have(a, b, ok):
    return sorted([row for row in ok if (row & a) == b])


def goes(m, a, b, ok):
    if not rules_are_right(m, ok):
        return [WRONGLY_TOLD]
    if not answers_are_right(m, a, b):
        return [WRONGLY_TOLD]
    rows = rows_that_have(a, b, ok)
    return [len(rows)] + rows
