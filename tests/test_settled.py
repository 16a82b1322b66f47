"""settled: the questions that follow from some answers, and the refusals -22 and -33."""

import itertools
import unittest

from clashrules.answers import goes, settled
from common import (
    CALLS_OF_ANSWERS,
    GREATEST_NUMBER,
    RULES,
    AgreesWithTheWords,
    KeepsTheInterface,
    RefusesWrongAnswers,
    all_a_and_b,
    answers_yes,
    rightly_told,
    rows_with,
)


def expected(m, a, b, ok):
    if not rightly_told(m, a, b, ok):
        return [-22]
    rows = rows_with(m, a, b, ok)
    if not rows:
        return [-33]
    how_many = which = which_yes = 0
    for question in range(m):
        given = [answers_yes(row, question) for row in rows]
        if all(given) or not any(given):
            how_many += 1
            which += 2 ** question
            which_yes += 2 ** question if given[0] else 0
    return [how_many, which, which_yes]


class Ordinary(unittest.TestCase):
    def test_a_question_that_follows_by_yes(self):
        self.assertEqual(settled(3, 3, 1, [0, 3, 5, 6]), [3, 7, 5])
        self.assertEqual(settled(3, 5, 1, [0, 3, 5, 6]), [3, 7, 3])
        # If question 0 is yes, question 1 is.
        self.assertEqual(settled(2, 1, 1, [0, 2, 3]), [2, 3, 3])

    def test_a_question_that_follows_by_no(self):
        self.assertEqual(settled(3, 2, 2, [1, 3, 5]), [3, 7, 3])
        self.assertEqual(settled(3, 3, 3, [0, 3, 5, 6]), [3, 7, 3])
        # If question 1 is no, question 0 is.
        self.assertEqual(settled(2, 2, 0, [0, 2, 3]), [2, 3, 0])

    def test_a_question_that_does_not_follow(self):
        self.assertEqual(settled(3, 1, 1, [0, 3, 5, 6]), [1, 1, 1])
        self.assertEqual(settled(2, 1, 0, [0, 2, 3]), [1, 1, 0])
        self.assertEqual(settled(2, 2, 2, [0, 2, 3]), [1, 2, 2])

    def test_some_follow_and_some_do_not(self):
        # Questions 0 and 1 are alike, and so are 2 and 3; question 4 is free.
        ok = [0, 3, 12, 15, 16, 19, 28, 31]
        self.assertEqual(settled(5, 1, 1, ok), [2, 3, 3])
        self.assertEqual(settled(5, 8, 0, ok), [2, 12, 0])
        self.assertEqual(settled(5, 9, 8, ok), [4, 15, 12])
        self.assertEqual(settled(5, 17, 1, ok), [3, 19, 3])
        self.assertEqual(settled(5, 16, 16, ok), [1, 16, 16])
        self.assertEqual(settled(5, 21, 20, ok), [5, 31, 28])

    def test_their_own_are_settled_too(self):
        self.assertEqual(settled(4, 5, 4, list(range(16))), [2, 5, 4])
        for m, ok in RULES[::3]:
            for a, b in all_a_and_b(m):
                if goes(m, a, b, ok)[0] > 0:
                    how_many, which, yes = settled(m, a, b, ok)
                    self.assertEqual((which & a, yes & a), (a, b), (m, a, b, ok))

    def test_rows_that_have_other_answers_do_not_count(self):
        self.assertEqual(settled(3, 4, 4, [4, 5, 2]), [2, 6, 4])
        self.assertEqual(settled(3, 4, 0, [4, 5, 2]), [3, 7, 2])

    def test_rows_that_may_not_stand_do_not_count(self):
        self.assertEqual(settled(2, 1, 1, [1, 0, 2]), [2, 3, 1])
        self.assertEqual(settled(2, 1, 1, [1, 0, 2, 3]), [1, 1, 1])

    def test_ok_in_any_order(self):
        for ok in itertools.permutations([0, 3, 5, 6]):
            self.assertEqual(settled(3, 3, 1, list(ok)), [3, 7, 5])
            self.assertEqual(settled(3, 4, 4, list(ok)), [1, 4, 4])
        for ok in itertools.permutations([1, 3, 5, 7, 4]):
            self.assertEqual(settled(3, 2, 2, list(ok)), [2, 3, 3])
            self.assertEqual(settled(3, 1, 0, list(ok)), [3, 7, 4])


class Corners(unittest.TestCase):
    def test_all_rows_may_stand(self):
        for m in range(1, 6):
            for a, b in all_a_and_b(m):
                self.assertEqual(settled(m, a, b, list(range(2 ** m))), [bin(a).count("1"), a, b])
                self.assertEqual(settled(m, a, b, list(range(2 ** m - 1, -1, -1))), [bin(a).count("1"), a, b])

    def test_one_row(self):
        self.assertEqual(settled(3, 0, 0, [7]), [3, 7, 7])
        self.assertEqual(settled(3, 0, 0, [0]), [3, 7, 0])
        self.assertEqual(settled(5, 16, 16, [21]), [5, 31, 21])
        for m in range(1, 6):
            last = 2 ** m - 1
            for row in range(2 ** m):
                for a in range(2 ** m):
                    self.assertEqual(settled(m, a, a & row, [row]), [m, last, row])
                    if a:
                        self.assertEqual(settled(m, a, a - (a & row), [row]), [-33])

    def test_a_question_always_answered_yes(self):
        self.assertEqual(settled(3, 0, 0, [1, 3, 5]), [1, 1, 1])
        self.assertEqual(settled(3, 1, 1, [1, 3, 5]), [1, 1, 1])
        self.assertEqual(settled(3, 1, 0, [1, 3, 5]), [-33])
        self.assertEqual(settled(3, 4, 0, [1, 3, 5]), [2, 5, 1])
        self.assertEqual(settled(5, 0, 0, list(range(16, 32))), [1, 16, 16])

    def test_a_question_always_answered_no(self):
        self.assertEqual(settled(2, 0, 0, [0, 2]), [1, 1, 0])
        self.assertEqual(settled(2, 2, 2, [0, 2]), [2, 3, 2])
        self.assertEqual(settled(5, 0, 0, list(range(16))), [1, 16, 0])

    def test_no_answers(self):
        self.assertEqual(settled(3, 0, 0, [0, 3, 5, 6]), [0, 0, 0])
        self.assertEqual(settled(3, 0, 0, [6, 7]), [2, 6, 6])
        self.assertEqual(settled(4, 0, 0, [6, 10]), [2, 3, 2])

    def test_a_clash_of_all_five(self):
        ok = list(range(31))
        self.assertEqual(settled(5, 15, 15, ok), [5, 31, 15])
        self.assertEqual(settled(5, 30, 30, ok), [5, 31, 30])
        self.assertEqual(settled(5, 7, 7, ok), [3, 7, 7])
        self.assertEqual(settled(5, 31, 31, ok), [-33])
        self.assertEqual(settled(5, 0, 0, ok), [0, 0, 0])

    def test_three_that_clash_though_each_two_do_not(self):
        ok = [0, 3, 5, 6]
        self.assertEqual(settled(3, 0, 0, ok), [0, 0, 0])
        for b in (1, 2, 4, 7):
            self.assertEqual(settled(3, 7, b, ok), [-33])
            for a in (3, 5, 6):
                # The third is settled, and not as it is in the clash.
                self.assertEqual(settled(3, a, a & b, ok), [3, 7, b ^ (7 - a)])


class Edges(unittest.TestCase):
    def test_one_question(self):
        self.assertEqual(settled(1, 0, 0, [0]), [1, 1, 0])
        self.assertEqual(settled(1, 0, 0, [1]), [1, 1, 1])
        self.assertEqual(settled(1, 0, 0, [1, 0]), [0, 0, 0])
        self.assertEqual(settled(1, 1, 0, [1, 0]), [1, 1, 0])
        self.assertEqual(settled(1, 1, 1, [1, 0]), [1, 1, 1])
        self.assertEqual(settled(1, 1, 1, [0]), [-33])
        self.assertEqual(settled(1, 1, 0, [1]), [-33])

    def test_least_and_greatest_row(self):
        for m in range(1, 6):
            last = 2 ** m - 1
            self.assertEqual(settled(m, 0, 0, [last, 0]), [0, 0, 0])
            self.assertEqual(settled(m, 1, 1, [last, 0]), [m, last, last])
            self.assertEqual(settled(m, 1, 0, [last, 0]), [m, last, 0])

    def test_all_questions_and_all_yes(self):
        for m in range(1, 6):
            last = 2 ** m - 1
            self.assertEqual(settled(m, last, last, [last, 0]), [m, last, last])
            self.assertEqual(settled(m, last, 0, [last, 0]), [m, last, 0])
            self.assertEqual(settled(m, last, last, list(range(last))), [-33])


class AgainstTheWords(AgreesWithTheWords, unittest.TestCase):
    call = staticmethod(settled)
    expected = staticmethod(expected)


class Refusals(RefusesWrongAnswers, unittest.TestCase):
    call = staticmethod(settled)

    def test_answers_that_do_not_go_together(self):
        self.assertEqual(settled(2, 3, 1, [0, 2, 3]), [-33])
        self.assertEqual(settled(3, 7, 1, [0, 3, 5, 6]), [-33])
        self.assertEqual(settled(3, 1, 0, [7]), [-33])
        self.assertEqual(settled(5, 31, 8, [9]), [-33])

    def test_wrongly_told_comes_ahead_of_not_together(self):
        self.refused(0, 1, 1, [0])
        self.refused(6, 1, 1, [0])
        self.refused(GREATEST_NUMBER, 1, 1, [0])
        self.refused(3, 0, 0, [])
        self.refused(3, 7, 7, [0, 0])
        self.refused(3, 7, 7, [0, 8])
        self.refused(3, 8, 8, [0])
        self.refused(3, 15, 7, [0])
        self.refused(3, 7, 8, [0])
        self.refused(3, 3, 4, [0])
        self.refused(3, GREATEST_NUMBER, GREATEST_NUMBER, [0])

    def test_wrongly_told_where_they_would_go_together(self):
        self.refused(0, 0, 0, [0])
        self.refused(6, 1, 1, [1])
        self.refused(3, 0, 0, [1, 1])
        self.refused(3, 8, 0, [0, 7])
        self.refused(3, 8, 8, [0, 8])


class Interface(KeepsTheInterface, unittest.TestCase):
    call = staticmethod(settled)
    calls = CALLS_OF_ANSWERS

    def test_arguments_by_name(self):
        self.assertEqual(settled(m=2, a=2, b=2, ok=[3, 1]), [2, 3, 3])

    def test_one_number_below_zero_or_three(self):
        for m, ok in RULES[::5]:
            for a, b in all_a_and_b(m):
                answer = settled(m, a, b, ok)
                self.assertTrue(answer == [-33] or len(answer) == 3 and min(answer) >= 0, (m, a, b, ok))


if __name__ == "__main__":
    unittest.main()
