"""What the tests of several calls need: right rules, wrong rules, the document's words, and the interface's."""

import contextlib
import io
import itertools

GREATEST_NUMBER = 4294967295


def answers_yes(number, question):
    return number // 2 ** question % 2 == 1


def rows_of(mask, m):
    """The rows that the bits of mask tell, falling."""
    return [row for row in range(2 ** m - 1, -1, -1) if answers_yes(mask, row)]


def all_rules(m):
    return [(m, rows_of(mask, m)) for mask in range(1, 2 ** 2 ** m)]


def some_rules(m):
    """Rules of 4 or 5 questions: few rows and many, told in several orders."""
    rows = 2 ** m
    rules = []
    for step in (1, 3, 7, 11):
        for size in range(1, rows + 1, 5):
            rules.append((m, [(step * k + size) % rows for k in range(size)]))
    for row in range(0, rows, 3):
        rules.append((m, [other for other in range(rows) if other != row]))
        rules.append((m, [other for other in range(rows) if other not in (row, rows - 1)]))
    for k in range(1, 60):
        rules.append((m, rows_of(k * 2654435761 % 2 ** rows | 1, m)))
        rules.append((m, rows_of(k * 2654435761 * k | 2, m)))
    return rules


RULES = all_rules(1) + all_rules(2) + all_rules(3) + some_rules(4) + some_rules(5)


def some_answers(m):
    """All that may be answered: for each question None (left open), False (no) or True (yes)."""
    return itertools.product((None, False, True), repeat=m)


def row_answers(m, row):
    return tuple(answers_yes(row, question) for question in range(m))


def row_has(row, answers):
    return all(wanted is None or wanted == given for wanted, given in zip(answers, row))


def go_together(m, ok):
    """All answers that go together: those for which some row that may stand has them."""
    stand = [row_answers(m, row) for row in ok]
    return {answers for answers in some_answers(m) if any(row_has(row, answers) for row in stand)}


def without_one(answers):
    """The answers, with one of them left out, for each of them."""
    return [
        answers[:question] + (None,) + answers[question + 1:]
        for question in range(len(answers))
        if answers[question] is not None
    ]


def clashes_by_the_words(m, ok):
    together = go_together(m, ok)
    return [
        answers
        for answers in some_answers(m)
        if answers not in together and all(others in together for others in without_one(answers))
    ]


def as_numbers(answers):
    a = sum(2 ** question for question, answer in enumerate(answers) if answer is not None)
    b = sum(2 ** question for question, answer in enumerate(answers) if answer)
    return a, b


def how_many_answers(answers):
    return len([answer for answer in answers if answer is not None])


def rightly_told(m, a, b, ok):
    """Whether promise 1 lets this pass, for m of 1 to 5 and any a, b and ok."""
    rows = 2 ** m
    if not ok or any(row >= rows or ok.count(row) > 1 for row in ok):
        return False
    return a < rows and b < rows and all(answers_yes(a, q) or not answers_yes(b, q) for q in range(m))


def as_answers(m, a, b):
    return tuple(answers_yes(b, question) if answers_yes(a, question) else None for question in range(m))


def rows_with(m, a, b, ok):
    """The rows that may stand and have these answers, rising."""
    answers = as_answers(m, a, b)
    return [row for row in range(2 ** m) if row in ok and row_has(row_answers(m, row), answers)]


def all_a_and_b(m):
    return [as_numbers(answers) for answers in some_answers(m)]


class Unchanging(list):
    """A list that tells of any attempt to change it, even for a while."""

    def refuse(self, *args, **kwargs):
        raise AssertionError("ok was changed")

    append = clear = extend = insert = pop = remove = reverse = sort = refuse
    __setitem__ = __delitem__ = __iadd__ = __imul__ = refuse


class RefusesWrongRules:
    """Promise 1 for a call of m and ok alone; beside it stands a TestCase, and call is the call."""

    def refused(self, m, ok):
        self.assertEqual(self.call(m, ok), [-22], (m, ok))

    def not_refused(self, m, ok):
        self.assertGreaterEqual(self.call(m, ok)[0], 0, (m, ok))

    def test_questions_not_one_to_five(self):
        for m in (0, 6, 7, 8, 31, 32, 64, GREATEST_NUMBER - 1, GREATEST_NUMBER):
            self.refused(m, [0])
            self.refused(m, [1, 0])
        for m in range(1, 6):
            self.not_refused(m, [0])

    def test_no_row_may_stand(self):
        for m in range(1, 6):
            self.refused(m, [])

    def test_a_row_twice(self):
        self.refused(1, [0, 0])
        self.refused(1, [1, 1])
        self.refused(3, [7, 1, 2, 7])
        self.refused(3, [2, 1, 1, 7])
        self.refused(3, [0, 1, 2, 3, 4, 5, 6, 7, 0])

    def test_a_row_too_great(self):
        for m in range(1, 6):
            rows = 2 ** m
            self.not_refused(m, [rows - 1])
            for great in (rows, rows + 1, 255):
                self.refused(m, [great])
                self.refused(m, [great, 0, 1])
                self.refused(m, [0, great, 1])
                self.refused(m, [0, 1, great])

    def test_long_lists(self):
        self.not_refused(5, list(range(32)))
        self.refused(5, list(range(32)) + [31])
        self.refused(5, list(range(33)))
        self.refused(5, list(range(40)))
        self.refused(5, list(range(32)) + list(range(8)))
        for m in range(1, 6):
            self.refused(m, [0] * 40)
            self.refused(m, [255] * 40)
            self.refused(m, list(range(216, 256)))

    def test_several_at_once(self):
        self.refused(0, [])
        self.refused(GREATEST_NUMBER, [255] * 40)
        self.refused(2, [4, 4])


class RefusesWrongAnswers:
    """Promise 1 for a call of m, a, b and ok; beside it stands a TestCase, and call is the call."""

    def refused(self, m, a, b, ok):
        self.assertEqual(self.call(m, a, b, ok), [-22], (m, a, b, ok))

    def not_refused(self, m, a, b, ok):
        self.assertNotEqual(self.call(m, a, b, ok), [-22], (m, a, b, ok))

    def test_questions_not_one_to_five(self):
        for m in (0, 6, 7, 8, 31, 32, 64, GREATEST_NUMBER - 1, GREATEST_NUMBER):
            self.refused(m, 0, 0, [0])
            self.refused(m, 1, 1, [1, 0])
            self.refused(m, 1, 1, [0])
        for m in range(1, 6):
            self.not_refused(m, 0, 0, [0])

    def test_no_row_may_stand(self):
        for m in range(1, 6):
            self.refused(m, 0, 0, [])
            self.refused(m, 1, 1, [])

    def test_a_row_twice(self):
        self.refused(1, 0, 0, [0, 0])
        self.refused(1, 0, 0, [1, 1])
        self.refused(3, 0, 0, [7, 1, 2, 7])
        self.refused(3, 0, 0, [2, 1, 1, 7])
        # The rows that are there twice need not have the answers.
        self.refused(3, 1, 1, [1, 2, 2])
        self.refused(5, 0, 0, list(range(32)) + [31])

    def test_a_row_too_great(self):
        for m in range(1, 6):
            rows = 2 ** m
            self.not_refused(m, 0, 0, [rows - 1])
            for great in (rows, rows + 1, 255):
                self.refused(m, 0, 0, [great])
                self.refused(m, 0, 0, [great, 0, 1])
                self.refused(m, 0, 0, [0, great, 1])
                self.refused(m, 0, 0, [0, 1, great])
            # The row too great need not have the answers.
            self.refused(m, 1, 1, [1, rows])

    def test_a_too_great(self):
        for m in range(1, 6):
            rows = 2 ** m
            for a in (rows, rows + 1, 2 * rows, 2 ** 31, GREATEST_NUMBER):
                self.refused(m, a, 0, [0, 1])
            self.not_refused(m, rows - 1, 0, [0, 1])

    def test_b_too_great(self):
        for m in range(1, 6):
            rows = 2 ** m
            for b in (rows, rows + 1, 2 * rows - 1, 2 ** 31, GREATEST_NUMBER):
                self.refused(m, rows - 1, b, [0, 1])
                self.refused(m, 0, b, [0, 1])
            self.not_refused(m, rows - 1, rows - 1, [0, 1])

    def test_a_and_b_too_great(self):
        for m in range(1, 6):
            for both in (2 ** m, 2 ** m + 1, GREATEST_NUMBER):
                self.refused(m, both, both, [0, 1])

    def test_b_has_a_question_that_a_has_not(self):
        self.refused(1, 0, 1, [0, 1])
        self.refused(2, 1, 2, [0, 1, 2, 3])
        self.refused(2, 2, 1, [0, 1, 2, 3])
        self.refused(3, 5, 7, [0, 7])
        self.refused(3, 6, 5, [0, 7])
        self.refused(5, 15, 16, list(range(32)))

    def test_long_lists(self):
        self.not_refused(5, 0, 0, list(range(32)))
        self.refused(5, 0, 0, list(range(33)))
        self.refused(5, 0, 0, list(range(40)))
        self.refused(5, 0, 0, list(range(32)) + list(range(8)))
        for m in range(1, 6):
            self.refused(m, 0, 0, [0] * 40)
            self.refused(m, 0, 0, [255] * 40)
            self.refused(m, 0, 0, list(range(216, 256)))

    def test_several_at_once(self):
        self.refused(0, 0, 0, [])
        self.refused(GREATEST_NUMBER, GREATEST_NUMBER, GREATEST_NUMBER, [255] * 40)
        self.refused(2, 4, 8, [4, 4])


class AgreesWithTheWords:
    """The document's words for a call of m, a, b and ok; beside it stands a TestCase, and call is the call.

    expected tells what the words ask for, question by question, for m of 1 to 5 and any a, b and ok.
    """

    def test_all_rules_of_up_to_three_questions(self):
        for m in (1, 2, 3):
            for rules in all_rules(m):
                self.compare(*rules)

    def test_rules_of_four_and_five_questions(self):
        for rules in some_rules(4) + some_rules(5)[::3]:
            self.compare(*rules)

    def test_short_lists_right_or_not(self):
        for m in (1, 2):
            for size in range(4):
                for ok in itertools.product(range(2 ** m + 1), repeat=size):
                    self.compare(m, list(ok))

    def compare(self, m, ok):
        for a in range(2 ** m + 1):
            for b in range(2 ** m + 1):
                answer = self.call(m, a, b, ok)
                if answer != self.expected(m, a, b, ok):
                    self.fail((m, a, b, ok, answer))


class KeepsTheInterface:
    """The paragraphs behind the interface's list; beside it stands a TestCase, and call is the call.

    calls are tuples of what is handed in, ok the last.
    """

    def test_ok_stays_as_it_was(self):
        for handed in self.calls:
            ok = list(handed[-1])
            self.call(*handed[:-1], ok)
            self.assertEqual(ok, handed[-1])

    def test_ok_is_not_changed_for_a_while(self):
        for handed in self.calls:
            answer = self.call(*handed[:-1], list(handed[-1]))
            self.assertEqual(self.call(*handed[:-1], Unchanging(handed[-1])), answer)

    def test_a_second_call_answers_as_the_first(self):
        first = [self.call(*handed[:-1], list(handed[-1])) for handed in self.calls]
        second = [self.call(*handed[:-1], list(handed[-1])) for handed in reversed(self.calls)]
        self.assertEqual(first, second[::-1])

    def test_an_answer_is_a_list_of_its_own(self):
        for handed in self.calls:
            ok = list(handed[-1])
            first = self.call(*handed[:-1], ok)
            kept = list(first)
            first.append(99)
            first[0] = 99
            self.assertEqual(ok, handed[-1])
            self.assertEqual(self.call(*handed[:-1], ok), kept)

    def test_what_is_answered_are_whole_numbers(self):
        for handed in self.calls:
            answer = self.call(*handed[:-1], list(handed[-1]))
            self.assertIs(type(answer), list)
            for number in answer:
                self.assertIs(type(number), int)

    def test_it_prints_nothing(self):
        out, err = io.StringIO(), io.StringIO()
        with contextlib.redirect_stdout(out), contextlib.redirect_stderr(err):
            for handed in self.calls:
                self.call(*handed[:-1], list(handed[-1]))
        self.assertEqual(out.getvalue() + err.getvalue(), "")


# m and ok, right ones and each wrong one.
CALLS_OF_RULES = (
    (3, [5, 6, 3, 0]),
    (3, [7, 0, 6, 1, 5, 2, 4, 3]),
    (5, [31]),
    (4, [9, 3, 12, 0, 15]),
    (0, [5, 1]),
    (6, [5, 1]),
    (GREATEST_NUMBER, [5, 1]),
    (3, []),
    (3, [5, 1, 5]),
    (3, [8, 1]),
)

# m, a, b and ok, right ones and each wrong one; of the right ones some go together, some don't.
CALLS_OF_ANSWERS = (
    (3, 1, 1, [5, 6, 3, 0]),
    (3, 0, 0, [5, 6, 3, 0]),
    (3, 7, 7, [5, 6, 3, 0]),
    (5, 31, 31, [31]),
    (4, 15, 6, [9, 3, 12, 0, 15]),
    (0, 0, 0, [5, 1]),
    (6, 0, 0, [5, 1]),
    (GREATEST_NUMBER, 0, 0, [5, 1]),
    (3, 0, 0, []),
    (3, 0, 0, [5, 1, 5]),
    (3, 0, 0, [8, 1]),
    (3, 8, 0, [5, 1]),
    (3, 7, 8, [5, 1]),
    (3, 1, 2, [5, 1]),
    (3, GREATEST_NUMBER, GREATEST_NUMBER, [5, 1]),
)
