"""Promise 3, sentence by sentence: what holds between the calls."""

import itertools
import unittest

from clashrules.answers import clashes, goes, greatest, settled, within
from common import RULES, all_a_and_b, all_rules, answers_yes


def go_together(m, a, b, ok):
    return goes(m, a, b, ok)[0] > 0


def pairs_of(answer):
    return list(zip(answer[1::2], answer[2::2]))


def majority(m, judges):
    row = 0
    for question in range(m):
        yes = len([judge for judge in judges if answers_yes(judge, question)])
        if 2 * yes > len(judges):
            row += 2 ** question
    return row


def majorities_stand(m, ok, how_many):
    judged = itertools.combinations_with_replacement(ok, how_many)
    return all(majority(m, judges) in ok for judges in judged)


class GoTogetherJustIfNoClashIsWithin(unittest.TestCase):
    def test_goes_within_and_settled_are_of_one_mind(self):
        for m, ok in RULES:
            for a, b in all_a_and_b(m):
                together = go_together(m, a, b, ok)
                self.assertEqual(within(m, a, b, ok) == [-17], together, (m, a, b, ok))
                self.assertEqual(settled(m, a, b, ok) != [-33], together, (m, a, b, ok))

    def test_what_is_within_does_not_go_together_and_without_one_it_does(self):
        for m, ok in RULES:
            for a, b in all_a_and_b(m):
                answer = within(m, a, b, ok)
                if answer != [-17]:
                    self.is_clash(m, *answer[1:], ok)

    def is_clash(self, m, a, b, ok):
        self.assertFalse(go_together(m, a, b, ok), (m, a, b, ok))
        for question in range(m):
            others = a & ~(2 ** question)
            if others != a:
                self.assertTrue(go_together(m, others, b & others, ok), (m, a, b, ok))


class MajoritiesStandJustIfNoClashHasMoreThanTwo(unittest.TestCase):
    def test_three_judges(self):
        for m, ok in RULES:
            self.assertEqual(greatest(m, ok)[0] <= 2, majorities_stand(m, ok, 3), (m, ok))

    def test_five_judges(self):
        for m, ok in RULES:
            if greatest(m, ok)[0] <= 2 and len(ok) <= 8:
                self.assertTrue(majorities_stand(m, ok, 5), (m, ok))

    def test_one_judge_and_seven(self):
        for m, ok in RULES:
            if greatest(m, ok)[0] <= 2 and len(ok) <= 6:
                self.assertTrue(majorities_stand(m, ok, 1), (m, ok))
                self.assertTrue(majorities_stand(m, ok, 7), (m, ok))

    def test_many_judges(self):
        for m, ok in all_rules(1) + all_rules(2):
            for judges in (9, 11, 13):
                self.assertTrue(greatest(m, ok)[0] <= 2 and majorities_stand(m, ok, judges), (m, ok, judges))


class RulesWithTheSameClashesAreTheSame(unittest.TestCase):
    def test_no_two_rules_have_the_same(self):
        told = {}
        for m, ok in RULES:
            rows = told.setdefault((m, tuple(clashes(m, ok))), sorted(ok))
            self.assertEqual(rows, sorted(ok), m)

    def test_the_rows_without_a_clash_are_those_that_may_stand(self):
        for m, ok in RULES:
            found = pairs_of(clashes(m, ok))
            rows = [row for row in range(2 ** m) if all(row & a != b for a, b in found)]
            self.assertEqual(rows, sorted(ok), m)

    def test_other_rows_have_other_clashes(self):
        for m, ok in RULES:
            if 1 < len(ok):
                self.assertNotEqual(clashes(m, ok), clashes(m, ok[1:]), (m, ok))


class NotSettledIsAnsweredBothWays(unittest.TestCase):
    def test_some_row_yes_and_some_no(self):
        for m, ok in RULES:
            for a, b in all_a_and_b(m):
                if go_together(m, a, b, ok):
                    self.each_question(m, a, b, ok)

    def each_question(self, m, a, b, ok):
        how_many, which, which_yes = settled(m, a, b, ok)
        rows = goes(m, a, b, ok)[1:]
        for question in range(m):
            power = 2 ** question
            given = {row & power for row in rows}
            if which & power:
                self.assertEqual(given, {which_yes & power}, (m, a, b, ok))
            else:
                self.assertEqual(given, {0, power}, (m, a, b, ok))
                self.assertTrue(go_together(m, a | power, b | power, ok), (m, a, b, ok))
                self.assertTrue(go_together(m, a | power, b, ok), (m, a, b, ok))
        self.assertEqual(how_many, bin(which).count("1"), (m, a, b, ok))
        self.assertEqual(which_yes & which, which_yes, (m, a, b, ok))


if __name__ == "__main__":
    unittest.main()
