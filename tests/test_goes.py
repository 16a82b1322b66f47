"""goes: the rows that may stand and have some answers, and the refusal -22."""

import itertools
import unittest

from clashrules.answers import goes
from common import GREATEST_NUMBER, KeepsTheInterface, answers_yes


def has_them(m, a, b, row):
    for question in range(m):
        if answers_yes(a, question) and answers_yes(row, question) != answers_yes(b, question):
            return False
    return True


def expected(m, a, b, ok):
    """The document's words, question by question, for m of 1 to 5 and any a, b and ok."""
    rows = 2 ** m
    if not ok or any(row >= rows or ok.count(row) > 1 for row in ok):
        return [-22]
    if a >= rows or b >= rows or any(answers_yes(b, q) and not answers_yes(a, q) for q in range(m)):
        return [-22]
    found = [row for row in range(rows) if row in ok and has_them(m, a, b, row)]
    return [len(found)] + found


class Ordinary(unittest.TestCase):
    def test_some_rows_have_the_answers(self):
        self.assertEqual(goes(3, 1, 1, [0, 3, 5, 6]), [2, 3, 5])
        self.assertEqual(goes(3, 1, 0, [0, 3, 5, 6]), [2, 0, 6])
        self.assertEqual(goes(3, 6, 2, [0, 3, 5, 6]), [1, 3])
        self.assertEqual(goes(4, 9, 8, [8, 9, 10, 12, 14, 1, 0]), [4, 8, 10, 12, 14])

    def test_no_row_has_the_answers(self):
        self.assertEqual(goes(3, 7, 7, [0, 3, 5, 6]), [0])
        self.assertEqual(goes(2, 2, 2, [0, 1]), [0])
        self.assertEqual(goes(2, 2, 0, [2, 3]), [0])

    def test_ok_in_any_order(self):
        for ok in itertools.permutations([1, 3, 4, 6, 7]):
            self.assertEqual(goes(3, 2, 2, list(ok)), [3, 3, 6, 7])

    def test_rows_rise(self):
        self.assertEqual(goes(5, 0, 0, [31, 2, 16, 9, 0, 10]), [6, 0, 2, 9, 10, 16, 31])
        self.assertEqual(goes(5, 16, 16, [31, 2, 16, 9, 0, 20]), [3, 16, 20, 31])

    def test_three_that_clash_though_any_two_go_together(self):
        ok = [3, 5, 6, 0]
        for pair in (3, 5, 6):
            self.assertEqual(goes(3, pair, pair, ok), [1, pair])
        self.assertEqual(goes(3, 7, 7, ok), [0])


class Edges(unittest.TestCase):
    def test_one_question(self):
        self.assertEqual(goes(1, 0, 0, [1, 0]), [2, 0, 1])
        self.assertEqual(goes(1, 1, 0, [1, 0]), [1, 0])
        self.assertEqual(goes(1, 1, 1, [1, 0]), [1, 1])
        self.assertEqual(goes(1, 1, 1, [0]), [0])
        self.assertEqual(goes(1, 1, 0, [1]), [0])

    def test_five_questions(self):
        self.assertEqual(goes(5, 31, 31, [31, 0]), [1, 31])
        self.assertEqual(goes(5, 31, 0, [31, 0]), [1, 0])
        self.assertEqual(goes(5, 17, 16, [31, 16, 30, 17]), [2, 16, 30])
        self.assertEqual(goes(5, 31, 31, list(range(31))), [0])

    def test_no_answers_have_all_rows(self):
        self.assertEqual(goes(3, 0, 0, [6, 1, 4]), [3, 1, 4, 6])

    def test_all_rows_may_stand(self):
        for m in range(1, 6):
            rows = 2 ** m
            ok = list(range(rows - 1, -1, -1))
            self.assertEqual(goes(m, 0, 0, ok), [rows] + list(range(rows)))
            self.assertEqual(goes(m, 1, 1, ok), [rows // 2] + list(range(1, rows, 2)))
            for row in range(rows):
                self.assertEqual(goes(m, rows - 1, row, ok), [1, row])

    def test_one_row(self):
        for m in range(1, 6):
            for row in range(2 ** m):
                self.assertEqual(goes(m, 0, 0, [row]), [1, row])
                self.assertEqual(goes(m, row, row, [row]), [1, row])
                self.assertEqual(goes(m, 1, 1 - row % 2, [row]), [0])

    def test_all_questions_answered(self):
        self.assertEqual(goes(4, 15, 6, [7, 6, 5]), [1, 6])
        self.assertEqual(goes(4, 15, 4, [7, 6, 5]), [0])

    def test_least_and_greatest_row(self):
        for m in range(1, 6):
            last = 2 ** m - 1
            self.assertEqual(goes(m, 0, 0, [last, 0]), [2, 0, last])
            self.assertEqual(goes(m, last, last, [last, 0]), [1, last])
            self.assertEqual(goes(m, last, 0, [last, 0]), [1, 0])

    def test_a_question_always_answered_yes(self):
        self.assertEqual(goes(2, 1, 0, [3, 1]), [0])
        self.assertEqual(goes(2, 1, 1, [3, 1]), [2, 1, 3])


class Refusals(unittest.TestCase):
    def refused(self, m, a, b, ok):
        self.assertEqual(goes(m, a, b, ok), [-22], (m, a, b, ok))

    def test_questions_not_one_to_five(self):
        for m in (0, 6, 7, 8, 31, 32, 64, GREATEST_NUMBER - 1, GREATEST_NUMBER):
            self.refused(m, 0, 0, [0])
            self.refused(m, 1, 1, [1, 0])

    def test_no_row_may_stand(self):
        for m in range(1, 6):
            self.refused(m, 0, 0, [])
            self.refused(m, 1, 1, [])

    def test_a_row_twice(self):
        self.refused(1, 0, 0, [0, 0])
        self.refused(1, 0, 0, [1, 1])
        self.refused(3, 0, 0, [7, 1, 2, 7])
        self.refused(3, 0, 0, [2, 1, 1, 7])
        # The rows that are there twice need not have the answers.
        self.refused(3, 1, 1, [1, 2, 2])
        self.refused(5, 0, 0, list(range(32)) + [31])

    def test_a_row_too_great(self):
        for m in range(1, 6):
            rows = 2 ** m
            for great in (rows, rows + 1, 255):
                self.refused(m, 0, 0, [great])
                self.refused(m, 0, 0, [great, 0, 1])
                self.refused(m, 0, 0, [0, great, 1])
                self.refused(m, 0, 0, [0, 1, great])
            # The row too great need not have the answers.
            self.refused(m, 1, 1, [1, rows])

    def test_a_too_great(self):
        for m in range(1, 6):
            rows = 2 ** m
            for a in (rows, rows + 1, 2 * rows, 2 ** 31, GREATEST_NUMBER):
                self.refused(m, a, 0, [0, 1])
            self.assertEqual(goes(m, rows - 1, 0, [0, 1]), [1, 0])

    def test_b_too_great(self):
        for m in range(1, 6):
            rows = 2 ** m
            for b in (rows, rows + 1, 2 * rows - 1, 2 ** 31, GREATEST_NUMBER):
                self.refused(m, rows - 1, b, [0, 1])
                self.refused(m, 0, b, [0, 1])

    def test_a_and_b_too_great(self):
        for m in range(1, 6):
            for both in (2 ** m, 2 ** m + 1, GREATEST_NUMBER):
                self.refused(m, both, both, [0, 1])

    def test_b_has_a_question_that_a_has_not(self):
        self.refused(1, 0, 1, [0, 1])
        self.refused(2, 1, 2, [0, 1, 2, 3])
        self.refused(2, 2, 1, [0, 1, 2, 3])
        self.refused(3, 5, 7, [0, 7])
        self.refused(3, 6, 5, [0, 7])
        self.refused(5, 15, 16, list(range(32)))

    def test_long_lists(self):
        self.refused(5, 0, 0, list(range(33)))
        self.refused(5, 0, 0, list(range(40)))
        self.refused(5, 0, 0, list(range(32)) + list(range(8)))
        for m in range(1, 6):
            self.refused(m, 0, 0, [0] * 40)
            self.refused(m, 0, 0, [255] * 40)
            self.refused(m, 0, 0, list(range(216, 256)))

    def test_several_at_once(self):
        self.refused(0, 0, 0, [])
        self.refused(GREATEST_NUMBER, GREATEST_NUMBER, GREATEST_NUMBER, [255] * 40)
        self.refused(2, 4, 8, [4, 4])


class AgainstTheWords(unittest.TestCase):
    def test_all_rules_of_up_to_three_questions(self):
        for m in (1, 2, 3):
            rows = 2 ** m
            for size in range(rows + 1):
                for ok in itertools.combinations(range(rows - 1, -1, -1), size):
                    self.compare(m, list(ok))

    def test_rules_of_four_and_five_questions(self):
        for m in (4, 5):
            for step in (1, 3, 5, 7, 11, 13):
                for size in range(1, 2 ** m + 1, 5):
                    self.compare(m, [(step * k + size) % 2 ** m for k in range(size)])

    def test_short_lists_right_or_not(self):
        for m in (1, 2):
            for size in range(4):
                for ok in itertools.product(range(2 ** m + 1), repeat=size):
                    self.compare(m, list(ok))

    def compare(self, m, ok):
        for a in range(2 ** m + 1):
            for b in range(2 ** m + 1):
                if goes(m, a, b, ok) != expected(m, a, b, ok):
                    self.fail((m, a, b, ok, goes(m, a, b, ok)))


CALLS = (
    (3, 1, 1, [5, 6, 3, 0]),
    (3, 0, 0, [5, 6, 3, 0]),
    (3, 7, 7, [5, 6, 3, 0]),
    (5, 31, 31, [31]),
    (0, 0, 0, [5, 1]),
    (GREATEST_NUMBER, 0, 0, [5, 1]),
    (3, 0, 0, []),
    (3, 0, 0, [5, 1, 5]),
    (3, 0, 0, [8, 1]),
    (3, 8, 0, [5, 1]),
    (3, 7, 8, [5, 1]),
    (3, 1, 2, [5, 1]),
)


class Interface(KeepsTheInterface, unittest.TestCase):
    call = staticmethod(goes)
    calls = CALLS

    def test_arguments_by_name(self):
        self.assertEqual(goes(m=2, a=1, b=1, ok=[3, 1]), [2, 1, 3])


if __name__ == "__main__":
    unittest.main()
