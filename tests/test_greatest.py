"""greatest: how many answers the greatest clash has, and the refusal -22."""

import itertools
import unittest

from clashrules.answers import greatest
from common import (
    CALLS_OF_RULES,
    RULES,
    KeepsTheInterface,
    RefusesWrongRules,
    clashes_by_the_words,
    how_many_answers,
)


def expected(m, ok):
    return [max((how_many_answers(clash) for clash in clashes_by_the_words(m, ok)), default=0)]


class Ordinary(unittest.TestCase):
    def test_clashes_of_one_size(self):
        self.assertEqual(greatest(2, [0, 2, 3]), [2])
        self.assertEqual(greatest(3, [0, 1, 2, 4]), [2])
        self.assertEqual(greatest(3, [7, 0]), [2])

    def test_the_greatest_counts_wherever_it_is_told(self):
        # By a, the clash of three comes ahead of that of one here, and behind it in the next.
        self.assertEqual(greatest(4, [8, 9, 10, 11, 12, 13, 14]), [3])
        self.assertEqual(greatest(4, [1, 3, 5, 7, 9, 11, 13]), [3])
        # A clash of one in the middle: question 1 is always no, and 0, 2 and 3 are not all yes.
        self.assertEqual(greatest(4, [0, 1, 4, 5, 8, 9, 12]), [3])

    def test_clashes_of_one_two_and_three_answers(self):
        # Question 4 is always yes, questions 2 and 3 are not both yes, questions 0, 1 and 2 not all.
        ok = [row for row in range(16, 32) if row & 12 != 12 and row & 7 != 7]
        self.assertEqual(greatest(5, ok), [3])

    def test_many_small_clashes_beside_a_great_one(self):
        # Questions 0 and 1 are not both yes, and 0, 2, 3 and 4 not all four.
        ok = [row for row in range(32) if row & 3 != 3 and row & 29 != 29]
        self.assertEqual(greatest(5, ok), [4])
        # Any two yes clash, and all no.
        self.assertEqual(greatest(5, [1, 2, 4, 8, 16]), [5])
        self.assertEqual(greatest(4, [1, 2, 4, 8]), [4])

    def test_ok_in_any_order(self):
        for ok in itertools.permutations([0, 3, 5, 6]):
            self.assertEqual(greatest(3, list(ok)), [3])
        for ok in itertools.permutations([0, 1, 2, 4, 3]):
            self.assertEqual(greatest(3, list(ok)), [2])


class Corners(unittest.TestCase):
    def test_all_rows_may_stand(self):
        for m in range(1, 6):
            self.assertEqual(greatest(m, list(range(2 ** m))), [0])
            self.assertEqual(greatest(m, list(range(2 ** m - 1, -1, -1))), [0])

    def test_one_row(self):
        for m in range(1, 6):
            for row in range(2 ** m):
                self.assertEqual(greatest(m, [row]), [1])

    def test_a_question_always_answered_yes(self):
        self.assertEqual(greatest(2, [1, 3]), [1])
        self.assertEqual(greatest(2, [2, 3]), [1])
        self.assertEqual(greatest(5, list(range(16, 32))), [1])

    def test_a_question_always_answered_no(self):
        self.assertEqual(greatest(2, [0, 2]), [1])
        self.assertEqual(greatest(5, list(range(16))), [1])

    def test_a_clash_of_all_five(self):
        for left_out in range(32):
            self.assertEqual(greatest(5, [row for row in range(32) if row != left_out]), [5])

    def test_three_that_clash_though_each_two_do_not(self):
        self.assertEqual(greatest(3, [0, 3, 5, 6]), [3])

    def test_one_question(self):
        self.assertEqual(greatest(1, [0]), [1])
        self.assertEqual(greatest(1, [1]), [1])
        self.assertEqual(greatest(1, [1, 0]), [0])

    def test_least_and_greatest_row(self):
        self.assertEqual(greatest(2, [0, 3]), [2])
        for m in range(2, 6):
            last = 2 ** m - 1
            self.assertEqual(greatest(m, [0, last]), [2])
            self.assertEqual(greatest(m, list(range(last))), [m])
            self.assertEqual(greatest(m, list(range(1, last + 1))), [m])


class AgainstTheWords(unittest.TestCase):
    def test_many_rules(self):
        for m, ok in RULES:
            self.assertEqual(greatest(m, ok), expected(m, ok), (m, ok))


class Refusals(RefusesWrongRules, unittest.TestCase):
    call = staticmethod(greatest)


class Interface(KeepsTheInterface, unittest.TestCase):
    call = staticmethod(greatest)
    calls = CALLS_OF_RULES

    def test_arguments_by_name(self):
        self.assertEqual(greatest(m=2, ok=[3, 1]), [1])

    def test_one_number(self):
        for m, ok in RULES:
            self.assertEqual(len(greatest(m, ok)), 1)


if __name__ == "__main__":
    unittest.main()
