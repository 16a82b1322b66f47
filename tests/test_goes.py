"""goes: the rows that may stand and have some answers, and the refusal -22."""

import itertools
import unittest

from clashrules.answers import goes
from common import (
    CALLS_OF_ANSWERS,
    AgreesWithTheWords,
    KeepsTheInterface,
    RefusesWrongAnswers,
    rightly_told,
    rows_with,
)


def expected(m, a, b, ok):
    if not rightly_told(m, a, b, ok):
        return [-22]
    found = rows_with(m, a, b, ok)
    return [len(found)] + found


class Ordinary(unittest.TestCase):
    def test_some_rows_have_the_answers(self):
        self.assertEqual(goes(3, 1, 1, [0, 3, 5, 6]), [2, 3, 5])
        self.assertEqual(goes(3, 1, 0, [0, 3, 5, 6]), [2, 0, 6])
        self.assertEqual(goes(3, 6, 2, [0, 3, 5, 6]), [1, 3])
        self.assertEqual(goes(4, 9, 8, [8, 9, 10, 12, 14, 1, 0]), [4, 8, 10, 12, 14])

    def test_no_row_has_the_answers(self):
        self.assertEqual(goes(3, 7, 7, [0, 3, 5, 6]), [0])
        self.assertEqual(goes(2, 2, 2, [0, 1]), [0])
        self.assertEqual(goes(2, 2, 0, [2, 3]), [0])

    def test_ok_in_any_order(self):
        for ok in itertools.permutations([1, 3, 4, 6, 7]):
            self.assertEqual(goes(3, 2, 2, list(ok)), [3, 3, 6, 7])

    def test_rows_rise(self):
        self.assertEqual(goes(5, 0, 0, [31, 2, 16, 9, 0, 10]), [6, 0, 2, 9, 10, 16, 31])
        self.assertEqual(goes(5, 16, 16, [31, 2, 16, 9, 0, 20]), [3, 16, 20, 31])

    def test_three_that_clash_though_any_two_go_together(self):
        ok = [3, 5, 6, 0]
        for pair in (3, 5, 6):
            self.assertEqual(goes(3, pair, pair, ok), [1, pair])
        self.assertEqual(goes(3, 7, 7, ok), [0])


class Edges(unittest.TestCase):
    def test_one_question(self):
        self.assertEqual(goes(1, 0, 0, [1, 0]), [2, 0, 1])
        self.assertEqual(goes(1, 1, 0, [1, 0]), [1, 0])
        self.assertEqual(goes(1, 1, 1, [1, 0]), [1, 1])
        self.assertEqual(goes(1, 1, 1, [0]), [0])
        self.assertEqual(goes(1, 1, 0, [1]), [0])

    def test_five_questions(self):
        self.assertEqual(goes(5, 31, 31, [31, 0]), [1, 31])
        self.assertEqual(goes(5, 31, 0, [31, 0]), [1, 0])
        self.assertEqual(goes(5, 17, 16, [31, 16, 30, 17]), [2, 16, 30])
        self.assertEqual(goes(5, 31, 31, list(range(31))), [0])

    def test_no_answers_have_all_rows(self):
        self.assertEqual(goes(3, 0, 0, [6, 1, 4]), [3, 1, 4, 6])

    def test_all_rows_may_stand(self):
        for m in range(1, 6):
            rows = 2 ** m
            ok = list(range(rows - 1, -1, -1))
            self.assertEqual(goes(m, 0, 0, ok), [rows] + list(range(rows)))
            self.assertEqual(goes(m, 1, 1, ok), [rows // 2] + list(range(1, rows, 2)))
            for row in range(rows):
                self.assertEqual(goes(m, rows - 1, row, ok), [1, row])

    def test_one_row(self):
        for m in range(1, 6):
            for row in range(2 ** m):
                self.assertEqual(goes(m, 0, 0, [row]), [1, row])
                self.assertEqual(goes(m, row, row, [row]), [1, row])
                self.assertEqual(goes(m, 1, 1 - row % 2, [row]), [0])

    def test_all_questions_answered(self):
        self.assertEqual(goes(4, 15, 6, [7, 6, 5]), [1, 6])
        self.assertEqual(goes(4, 15, 4, [7, 6, 5]), [0])

    def test_least_and_greatest_row(self):
        for m in range(1, 6):
            last = 2 ** m - 1
            self.assertEqual(goes(m, 0, 0, [last, 0]), [2, 0, last])
            self.assertEqual(goes(m, last, last, [last, 0]), [1, last])
            self.assertEqual(goes(m, last, 0, [last, 0]), [1, 0])

    def test_a_question_always_answered_yes(self):
        self.assertEqual(goes(2, 1, 0, [3, 1]), [0])
        self.assertEqual(goes(2, 1, 1, [3, 1]), [2, 1, 3])


class Refusals(RefusesWrongAnswers, unittest.TestCase):
    call = staticmethod(goes)


class AgainstTheWords(AgreesWithTheWords, unittest.TestCase):
    call = staticmethod(goes)
    expected = staticmethod(expected)


class Interface(KeepsTheInterface, unittest.TestCase):
    call = staticmethod(goes)
    calls = CALLS_OF_ANSWERS

    def test_arguments_by_name(self):
        self.assertEqual(goes(m=2, a=1, b=1, ok=[3, 1]), [2, 1, 3])


if __name__ == "__main__":
    unittest.main()
