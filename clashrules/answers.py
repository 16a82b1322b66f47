"""The calls: each takes the rules, and some answers where it needs them, and answers a list of whole numbers."""

WRONGLY_TOLD = -22
NO_CLASH_WITHIN = -17
NOT_TOGETHER = -33
MOST_QUESTIONS = 5


def two_to_the_power(n):
    power = 1
    for step in range(n):
        power = power * 2
    return power


def rules_are_right(m, ok):
    # m comes first: it may be so great that 2 to its power could not be told.
    if m < 1 or m > MOST_QUESTIONS:
        return False
    if len(ok) == 0 or max(ok) >= two_to_the_power(m):
        return False
    return len(set(ok)) == len(ok)


def answers_are_right(m, a, b):
    # Where b has no question that a hasn't, b is no greater than a, so a's bound is b's too.
    return a < two_to_the_power(m) and (a & b) == b


def all_is_right(m, a, b, ok):
    return rules_are_right(m, ok) and answers_are_right(m, a, b)


def rows_that_have(a, b, ok):
    return sorted([row for row in ok if (row & a) == b])


def they_go_together(a, b, ok):
    return len(rows_that_have(a, b, ok)) > 0


def is_clash(m, a, b, ok):
    if they_go_together(a, b, ok):
        return False
    for question in range(m):
        left_out = two_to_the_power(question)
        if (a & left_out) != 0:
            others = a - left_out
            if not they_go_together(others, b & others, ok):
                return False
    return True


def clashes_in_order(m, ok):
    found = []
    for a in range(two_to_the_power(m)):
        for b in range(a + 1):
            if (a & b) == b and is_clash(m, a, b, ok):
                found.append((a, b))
    return found


def clashes_among(m, a, b, ok):
    # Which of a's questions a clash has tells its yeses too, so rising questions are the order of clashes.
    found = []
    for part in range(a + 1):
        if (part & a) == part and is_clash(m, part, part & b, ok):
            found.append((part, part & b))
    return found


def how_many_questions(m, a):
    return len([question for question in range(m) if (a & two_to_the_power(question)) != 0])


def always_answered_yes(rows):
    yes = rows[0]
    for row in rows:
        yes = yes & row
    return yes


def ever_answered_yes(rows):
    yes = 0
    for row in rows:
        yes = yes | row
    return yes


def goes(m, a, b, ok):
    if not all_is_right(m, a, b, ok):
        return [WRONGLY_TOLD]
    rows = rows_that_have(a, b, ok)
    return [len(rows)] + rows


def clashes(m, ok):
    if not rules_are_right(m, ok):
        return [WRONGLY_TOLD]
    found = clashes_in_order(m, ok)
    answer = [len(found)]
    for a, b in found:
        answer.append(a)
        answer.append(b)
    return answer


def greatest(m, ok):
    if not rules_are_right(m, ok):
        return [WRONGLY_TOLD]
    sizes = [how_many_questions(m, a) for a, b in clashes_in_order(m, ok)]
    return [max(sizes, default=0)]


def within(m, a, b, ok):
    if not all_is_right(m, a, b, ok):
        return [WRONGLY_TOLD]
    found = clashes_among(m, a, b, ok)
    if len(found) == 0:
        return [NO_CLASH_WITHIN]
    fewest = min([how_many_questions(m, part) for part, yes in found])
    # Others may have as few: the first as clashes has them is told.
    smallest = [clash for clash in found if how_many_questions(m, clash[0]) == fewest][0]
    return [fewest, smallest[0], smallest[1]]


def settled(m, a, b, ok):
    if not all_is_right(m, a, b, ok):
        return [WRONGLY_TOLD]
    rows = rows_that_have(a, b, ok)
    if len(rows) == 0:
        return [NOT_TOGETHER]
    every_question = two_to_the_power(m) - 1
    yes = always_answered_yes(rows)
    no = every_question - ever_answered_yes(rows)
    return [how_many_questions(m, yes + no), yes + no, yes]
