"""clashes: all the clashes there are, by a, then by b, rising, and the refusal -22."""

import itertools
import unittest

from clashrules.answers import clashes
from common import (
    CALLS_OF_RULES,
    RULES,
    KeepsTheInterface,
    RefusesWrongRules,
    all_rules,
    as_numbers,
    clashes_by_the_words,
    go_together,
    some_answers,
)


def expected(m, ok):
    pairs = sorted(as_numbers(answers) for answers in clashes_by_the_words(m, ok))
    return [len(pairs)] + [number for pair in pairs for number in pair]


def pairs_of(answer):
    return list(zip(answer[1::2], answer[2::2]))


class Ordinary(unittest.TestCase):
    def test_one_answer_follows_from_another(self):
        self.assertEqual(clashes(2, [0, 2, 3]), [1, 3, 1])

    def test_at_most_one_yes(self):
        self.assertEqual(clashes(3, [0, 1, 2, 4]), [3, 3, 3, 5, 5, 6, 6])

    def test_all_alike(self):
        self.assertEqual(clashes(3, [7, 0]), [6, 3, 1, 3, 2, 5, 1, 5, 4, 6, 2, 6, 4])

    def test_clashes_of_several_sizes(self):
        # The last question is always yes; the others are not all three yes.
        self.assertEqual(clashes(4, [8, 9, 10, 11, 12, 13, 14]), [2, 7, 7, 8, 0])

    def test_ok_in_any_order(self):
        for ok in itertools.permutations([0, 3, 5, 6]):
            self.assertEqual(clashes(3, list(ok)), [4, 7, 1, 7, 2, 7, 4, 7, 7])
        for ok in itertools.permutations([0, 1, 2, 4, 3]):
            self.assertEqual(clashes(3, list(ok)), [2, 5, 5, 6, 6])

    def test_by_a_then_by_b_and_each_once(self):
        for m, ok in RULES:
            pairs = pairs_of(clashes(m, ok))
            self.assertEqual(pairs, sorted(set(pairs)), (m, ok))

    def test_b_has_no_question_that_a_has_not(self):
        for m, ok in RULES:
            for a, b in pairs_of(clashes(m, ok)):
                self.assertEqual(a | b, a, (m, ok))


class Corners(unittest.TestCase):
    def test_all_rows_may_stand(self):
        for m in range(1, 6):
            self.assertEqual(clashes(m, list(range(2 ** m))), [0])
            self.assertEqual(clashes(m, list(range(2 ** m - 1, -1, -1))), [0])

    def test_one_row(self):
        self.assertEqual(clashes(3, [5]), [3, 1, 0, 2, 2, 4, 0])
        self.assertEqual(clashes(5, [0]), [5, 1, 1, 2, 2, 4, 4, 8, 8, 16, 16])
        self.assertEqual(clashes(5, [31]), [5, 1, 0, 2, 0, 4, 0, 8, 0, 16, 0])

    def test_a_question_always_answered_yes(self):
        self.assertEqual(clashes(2, [1, 3]), [1, 1, 0])
        self.assertEqual(clashes(2, [2, 3]), [1, 2, 0])
        self.assertEqual(clashes(5, list(range(16, 32))), [1, 16, 0])

    def test_a_question_always_answered_no(self):
        self.assertEqual(clashes(2, [0, 2]), [1, 1, 1])
        self.assertEqual(clashes(2, [0, 1]), [1, 2, 2])
        self.assertEqual(clashes(5, list(range(16))), [1, 16, 16])

    def test_a_clash_of_all_five(self):
        for left_out in range(32):
            ok = [row for row in range(32) if row != left_out]
            self.assertEqual(clashes(5, ok), [1, 31, left_out])

    def test_two_clashes_of_all_five(self):
        self.assertEqual(clashes(5, list(range(1, 31))), [2, 31, 0, 31, 31])

    def test_most_clashes_of_all_five(self):
        # Each row with an odd number of yes clashes; without one answer the even rows have the rest.
        odd = [row for row in range(32) if bin(row).count("1") % 2 == 1]
        even = [row for row in range(32) if row not in odd]
        self.assertEqual(clashes(5, even), [16] + [number for row in odd for number in (31, row)])

    def test_three_that_clash_though_each_two_do_not(self):
        self.assertEqual(clashes(3, [0, 3, 5, 6]), [4, 7, 1, 7, 2, 7, 4, 7, 7])

    def test_one_question(self):
        self.assertEqual(clashes(1, [0]), [1, 1, 1])
        self.assertEqual(clashes(1, [1]), [1, 1, 0])
        self.assertEqual(clashes(1, [1, 0]), [0])

    def test_least_and_greatest_row(self):
        self.assertEqual(clashes(2, [0, 3]), [2, 3, 1, 3, 2])
        self.assertEqual(clashes(2, [1, 2]), [2, 3, 0, 3, 3])
        for m in range(1, 6):
            last = 2 ** m - 1
            self.assertEqual(clashes(m, [0, last])[0], m * (m - 1))
            self.assertEqual(clashes(m, list(range(last))), [1, last, last])
            self.assertEqual(clashes(m, list(range(1, last + 1))), [1, last, 0])


class AgainstTheWords(unittest.TestCase):
    def test_all_clashes_and_nothing_else(self):
        for m, ok in RULES:
            self.assertEqual(clashes(m, ok), expected(m, ok), (m, ok))

    def test_answers_go_together_just_if_no_clash_is_within_them(self):
        for m, ok in RULES:
            if m < 5:
                self.go_together_without_clash(m, ok)

    def go_together_without_clash(self, m, ok):
        found = pairs_of(clashes(m, ok))
        together = go_together(m, ok)
        for answers in some_answers(m):
            a, b = as_numbers(answers)
            within = [pair for pair in found if pair[0] & a == pair[0] and b & pair[0] == pair[1]]
            self.assertEqual(answers in together, not within, (m, ok, answers))

    def test_rules_with_the_same_clashes_are_the_same(self):
        for m in (1, 2, 3):
            rules = all_rules(m)
            told = {tuple(clashes(m, ok)) for m, ok in rules}
            self.assertEqual(len(told), len(rules))


class Refusals(RefusesWrongRules, unittest.TestCase):
    call = staticmethod(clashes)


class Interface(KeepsTheInterface, unittest.TestCase):
    call = staticmethod(clashes)
    calls = CALLS_OF_RULES

    def test_arguments_by_name(self):
        self.assertEqual(clashes(m=2, ok=[3, 1]), [1, 1, 0])


if __name__ == "__main__":
    unittest.main()
