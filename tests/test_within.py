"""within: a smallest clash within some answers, and the refusals -22 and -17."""

import functools
import itertools
import unittest

from clashrules.answers import clashes, within
from common import (
    CALLS_OF_ANSWERS,
    GREATEST_NUMBER,
    RULES,
    AgreesWithTheWords,
    KeepsTheInterface,
    RefusesWrongAnswers,
    all_a_and_b,
    as_answers,
    as_numbers,
    clashes_by_the_words,
    how_many_answers,
    rightly_told,
)


@functools.lru_cache(maxsize=None)
def clashes_once(m, rows):
    """The clashes by the words, in the order of clashes: the same rules are asked for at many a and b."""
    return sorted(clashes_by_the_words(m, rows), key=as_numbers)


def all_are_among(clash, answers):
    return all(part is None or part == whole for part, whole in zip(clash, answers))


def expected(m, a, b, ok):
    if not rightly_told(m, a, b, ok):
        return [-22]
    inside = [clash for clash in clashes_once(m, tuple(ok)) if all_are_among(clash, as_answers(m, a, b))]
    for size in range(m + 1):
        for clash in inside:
            if how_many_answers(clash) == size:
                return [size, *as_numbers(clash)]
    return [-17]


class Ordinary(unittest.TestCase):
    def test_one_clash_within(self):
        self.assertEqual(within(2, 3, 1, [0, 2, 3]), [2, 3, 1])
        self.assertEqual(within(3, 7, 3, [0, 1, 2, 4]), [2, 3, 3])
        # The same clash, whatever else is answered beside it.
        for b in (3, 7, 11, 15):
            self.assertEqual(within(4, 15, b, [row for row in range(16) if row & 3 != 3]), [2, 3, 3])

    def test_the_fewest_answers_though_it_comes_later(self):
        # Questions 0 and 1 are not both yes, and question 2 is always yes.
        self.assertEqual(clashes(3, [4, 5, 6]), [2, 3, 3, 4, 0])
        self.assertEqual(within(3, 7, 3, [4, 5, 6]), [1, 4, 0])
        # Three of them, two of them, one of them: each later and smaller.
        ok = [row for row in range(16, 32) if row & 12 != 12 and row & 7 != 7]
        self.assertEqual(clashes(5, ok), [3, 7, 7, 12, 12, 16, 0])
        self.assertEqual(within(5, 31, 15, ok), [1, 16, 0])
        self.assertEqual(within(5, 31, 31, ok), [2, 12, 12])
        self.assertEqual(within(5, 31, 23, ok), [3, 7, 7])

    def test_the_fewest_answers_though_it_comes_ahead(self):
        # Question 0 is always yes, and questions 1 and 2 are not both yes.
        self.assertEqual(clashes(3, [1, 3, 5]), [2, 1, 0, 6, 6])
        self.assertEqual(within(3, 7, 6, [1, 3, 5]), [1, 1, 0])
        self.assertEqual(within(3, 7, 7, [1, 3, 5]), [2, 6, 6])

    def test_the_first_of_several_with_the_fewest(self):
        self.assertEqual(within(3, 7, 0, [7]), [1, 1, 0])
        self.assertEqual(within(3, 6, 0, [7]), [1, 2, 0])
        self.assertEqual(within(3, 7, 1, [7]), [1, 2, 0])
        self.assertEqual(within(3, 7, 7, [0, 1, 2, 4]), [2, 3, 3])
        self.assertEqual(within(4, 15, 13, [0, 1, 2, 4, 8]), [2, 5, 5])

    def test_the_first_is_told_by_a_though_its_b_is_greater(self):
        # Alone, question 0 clashes by yes, question 1 by no.
        self.assertEqual(clashes(2, [2]), [2, 1, 1, 2, 0])
        self.assertEqual(within(2, 3, 1, [2]), [1, 1, 1])
        # A great clash first, then two as small as one another.
        ok = [row for row in range(24, 32) if row & 7 != 7]
        self.assertEqual(clashes(5, ok), [3, 7, 7, 8, 0, 16, 0])
        self.assertEqual(within(5, 31, 7, ok), [1, 8, 0])

    def test_a_clash_on_these_questions_whose_answers_are_others(self):
        self.assertEqual(clashes(2, [0, 2, 3]), [1, 3, 1])
        for b in (0, 2, 3):
            self.assertEqual(within(2, 3, b, [0, 2, 3]), [-17])
        self.assertEqual(within(3, 7, 4, [4, 5, 6]), [-17])
        self.assertEqual(within(1, 1, 1, [1]), [-17])

    def test_a_clash_of_which_one_question_is_not_answered(self):
        self.assertEqual(within(2, 1, 1, [0, 2, 3]), [-17])
        self.assertEqual(within(2, 2, 0, [0, 2, 3]), [-17])
        self.assertEqual(within(3, 3, 3, [4, 5, 6]), [2, 3, 3])
        self.assertEqual(within(3, 5, 1, [4, 5, 6]), [1, 4, 0])
        self.assertEqual(within(3, 1, 1, [4, 5, 6]), [-17])

    def test_ok_in_any_order(self):
        for ok in itertools.permutations([4, 5, 6]):
            self.assertEqual(within(3, 7, 3, list(ok)), [1, 4, 0])
        for ok in itertools.permutations([0, 1, 2, 4]):
            self.assertEqual(within(3, 7, 6, list(ok)), [2, 6, 6])
            self.assertEqual(within(3, 7, 4, list(ok)), [-17])


class Corners(unittest.TestCase):
    def test_all_rows_may_stand(self):
        for m in range(1, 6):
            for a, b in all_a_and_b(m):
                self.assertEqual(within(m, a, b, list(range(2 ** m))), [-17])
                self.assertEqual(within(m, a, b, list(range(2 ** m - 1, -1, -1))), [-17])

    def test_one_row(self):
        self.assertEqual(within(3, 7, 5, [5]), [-17])
        self.assertEqual(within(3, 7, 7, [5]), [1, 2, 2])
        self.assertEqual(within(3, 7, 0, [5]), [1, 1, 0])
        self.assertEqual(within(3, 6, 0, [5]), [1, 4, 0])
        self.assertEqual(within(5, 31, 31, [31]), [-17])
        self.assertEqual(within(5, 31, 15, [31]), [1, 16, 0])
        self.assertEqual(within(5, 31, 31, [0]), [1, 1, 1])

    def test_a_question_always_answered_yes(self):
        self.assertEqual(within(2, 1, 0, [1, 3]), [1, 1, 0])
        self.assertEqual(within(2, 3, 2, [1, 3]), [1, 1, 0])
        self.assertEqual(within(2, 1, 1, [1, 3]), [-17])
        self.assertEqual(within(2, 2, 0, [1, 3]), [-17])
        self.assertEqual(within(5, 31, 15, list(range(16, 32))), [1, 16, 0])

    def test_a_question_always_answered_no(self):
        self.assertEqual(within(2, 1, 1, [0, 2]), [1, 1, 1])
        self.assertEqual(within(2, 1, 0, [0, 2]), [-17])
        self.assertEqual(within(5, 31, 31, list(range(16))), [1, 16, 16])

    def test_no_answers(self):
        for m, ok in RULES:
            self.assertEqual(within(m, 0, 0, ok), [-17])

    def test_a_clash_of_all_five(self):
        self.assertEqual(within(5, 31, 31, list(range(31))), [5, 31, 31])
        self.assertEqual(within(5, 31, 30, list(range(31))), [-17])
        self.assertEqual(within(5, 15, 15, list(range(31))), [-17])
        for left_out in range(32):
            ok = [row for row in range(32) if row != left_out]
            self.assertEqual(within(5, 31, left_out, ok), [5, 31, left_out])
            self.assertEqual(within(5, 31, 31 - left_out, ok), [-17])

    def test_three_that_clash_though_each_two_do_not(self):
        ok = [0, 3, 5, 6]
        for b in (1, 2, 4, 7):
            self.assertEqual(within(3, 7, b, ok), [3, 7, b])
            for a in (3, 5, 6):
                self.assertEqual(within(3, a, a & b, ok), [-17])
        for b in (0, 3, 5, 6):
            self.assertEqual(within(3, 7, b, ok), [-17])


class Edges(unittest.TestCase):
    def test_one_question(self):
        self.assertEqual(within(1, 1, 1, [0]), [1, 1, 1])
        self.assertEqual(within(1, 1, 0, [0]), [-17])
        self.assertEqual(within(1, 1, 0, [1]), [1, 1, 0])
        self.assertEqual(within(1, 1, 1, [1]), [-17])
        self.assertEqual(within(1, 0, 0, [1]), [-17])
        self.assertEqual(within(1, 1, 1, [1, 0]), [-17])

    def test_least_and_greatest_row(self):
        for m in range(2, 6):
            last = 2 ** m - 1
            self.assertEqual(within(m, last, last, [0, last]), [-17])
            self.assertEqual(within(m, last, 0, [0, last]), [-17])
            self.assertEqual(within(m, last, 1, [0, last]), [2, 3, 1])
            self.assertEqual(within(m, last, last - 1, [0, last]), [2, 3, 2])

    def test_all_questions_and_all_yes(self):
        for m in range(1, 6):
            last = 2 ** m - 1
            self.assertEqual(within(m, last, last, list(range(last))), [m, last, last])
            self.assertEqual(within(m, last, 0, list(range(1, last + 1))), [m, last, 0])
            self.assertEqual(within(m, last, last, list(range(1, last + 1))), [-17])


class AgainstTheWords(AgreesWithTheWords, unittest.TestCase):
    call = staticmethod(within)
    expected = staticmethod(expected)


class BesideClashes(unittest.TestCase):
    def test_what_is_told_is_one_of_the_clashes(self):
        for m, ok in RULES:
            told = clashes(m, ok)
            pairs = list(zip(told[1::2], told[2::2]))
            for a, b in pairs:
                size, *pair = within(m, 2 ** m - 1, b, ok)
                self.assertIn(tuple(pair), pairs)
                self.assertEqual(size, bin(pair[0]).count("1"))
                # No clash has another within it.
                self.assertEqual(within(m, a, b, ok)[1:], [a, b], (m, a, b, ok))


class Refusals(RefusesWrongAnswers, unittest.TestCase):
    call = staticmethod(within)

    def test_no_clash_within(self):
        self.assertEqual(within(2, 3, 2, [0, 2, 3]), [-17])
        self.assertEqual(within(3, 3, 1, [0, 3, 5, 6]), [-17])
        self.assertEqual(within(5, 31, 9, [9]), [-17])

    def test_wrongly_told_comes_ahead_of_no_clash(self):
        every = list(range(8))
        self.refused(0, 0, 0, [0])
        self.refused(6, 7, 7, every)
        self.refused(GREATEST_NUMBER, 7, 7, every)
        self.refused(3, 0, 0, [])
        self.refused(3, 0, 0, every + [7])
        self.refused(3, 0, 0, every + [8])
        self.refused(3, 8, 0, every)
        self.refused(3, 8, 8, every)
        self.refused(3, 7, 8, every)
        self.refused(3, 3, 4, every)
        self.refused(3, GREATEST_NUMBER, GREATEST_NUMBER, every)

    def test_wrongly_told_where_a_clash_is_within(self):
        self.refused(0, 1, 1, [0])
        self.refused(6, 1, 1, [0])
        self.refused(3, 7, 7, [0, 0])
        self.refused(3, 7, 7, [0, 8])
        self.refused(3, 15, 7, [0])
        self.refused(3, 15, 15, [0])
        self.refused(3, 3, 7, [0])


class Interface(KeepsTheInterface, unittest.TestCase):
    call = staticmethod(within)
    calls = CALLS_OF_ANSWERS

    def test_arguments_by_name(self):
        self.assertEqual(within(m=2, a=3, b=2, ok=[3, 1]), [1, 1, 0])

    def test_one_number_below_zero_or_three(self):
        for m, ok in RULES[::5]:
            for a, b in all_a_and_b(m):
                answer = within(m, a, b, ok)
                self.assertTrue(answer == [-17] or len(answer) == 3 and min(answer) >= 0, (m, a, b, ok))


if __name__ == "__main__":
    unittest.main()
