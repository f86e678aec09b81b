"""answers against the rules written out once more, in another way, and against misses.

As in test_against_plain.py every key has a place in time instead of a place in a list.
"""

import itertools
import unittest

from cacherules.misses import misses
from telling import RULES, TOP_KEY, answers, call_by_call
from test_against_plain import Plain, drawn_row


class PlainCache(Plain):
    """Plain, which can also be asked who left and who is there, and drops keys."""

    gone = None

    def leaver(self):
        self.gone = super().leaver()
        return self.gone

    def use(self, key):
        self.gone = None
        if not self.misses_it(key):
            return [1]
        return [0] if self.gone is None else [2, self.gone]

    def drop(self, key):
        if key not in self.place:
            return [0]
        del self.place[key], self.uses[key]
        self.marks.discard(key)
        self.safe.discard(key)
        return [1]

    def order(self):
        by_time = sorted(self.place, key=lambda key: self.place[key])
        if self.rule == 2:
            by_time.sort(key=lambda key: self.uses[key])
        if self.rule == 4:
            by_time.sort(key=lambda key: key in self.safe)
        return [len(by_time)] + by_time


def plain_answers(calls):
    """What is answered, a list for each of the calls, which stand in lists of their own."""
    told = []
    plain = None
    for kind, *numbers in calls:
        if kind == 1 and 0 <= numbers[0] <= 4 and 1 <= numbers[1] <= 1024:
            plain = PlainCache(*numbers)
            told.append([0])
        elif kind == 1:
            told.append([-2])
        elif kind == 2:
            told.append(plain.use(*numbers))
        elif kind == 3:
            told.append(plain.drop(*numbers))
        elif kind == 4:
            told.append([1 if numbers[0] in plain.place else 0])
        else:
            told.append(plain.order())
    return told


def drawn_calls(seed, rule, room, length, kinds):
    """Calls that are the same whenever the seed is: most are uses, each fourth or so another."""
    calls = [[1, rule, room]]
    chosen = drawn_row(seed + 77, length, 60)
    for choice, key in zip(chosen, drawn_row(seed, length, kinds)):
        key = TOP_KEY - key if seed % 2 else key
        if choice == 50:
            calls.append([1, (rule + key) % 5, 1 + (room + key) % 9])
        elif choice > 45:
            calls.append([1, rule - 5 if choice % 2 else rule, 0 if choice % 2 == 0 else room])
        elif choice % 6 == 1:
            calls.append([3, key])
        elif choice % 12 == 2:
            calls.append([4, key])
        elif choice % 12 == 3:
            calls.append([5])
        else:
            calls.append([2, key])
    return calls[:400]


class AgainstPlain(unittest.TestCase):
    def same(self, calls):
        told = call_by_call(answers([number for call in calls for number in call]))
        expected = plain_answers(calls)
        self.assertEqual(len(told), len(expected), calls)
        for place, call in enumerate(calls):
            self.assertEqual(told[place], expected[place], (place, call, calls))

    def test_every_short_row_of_uses_and_drops(self):
        steps = [[2, 1], [2, 2], [2, 3], [3, 1], [3, 2]]
        for row in itertools.product(steps, repeat=5):
            if row[0] == [2, 1]:
                behind = [[5], [2, 8], [5], [2, 9], [5]]
                for rule in RULES:
                    for room in (1, 2, 3):
                        self.same([[1, rule, room], *row, *behind])

    def test_every_row_of_uses_and_drops_by_rules_3_and_4(self):
        steps = [[2, 1], [2, 2], [2, 3], [3, 1], [3, 3]]
        for row in itertools.product(steps, repeat=4):
            for rule in (3, 4):
                for room in (4, 5):
                    come = [[2, key] for key in range(1, room + 1)]
                    self.same([[1, rule, room], *come, [2, 2], *row, [5], [2, 8], [2, 9], [2, 7], [5]])

    def test_drawn_rows(self):
        for seed in range(60):
            for rule in RULES:
                for room in (1, 2, 3, 4, 5, 6, 7, 8, 13):
                    self.same(drawn_calls(seed, rule, room, 100, 3 + seed % 25))

    def test_drawn_rows_of_400_calls(self):
        for seed in range(20):
            for rule in RULES:
                for room in (1, 2, 5, 20, 60, 1024):
                    self.same(drawn_calls(seed, rule, room, 399, 10 + 8 * seed))


class AgainstMisses(unittest.TestCase):
    """A use that doesn't find its key there is a miss: 399 keys are what a list of calls has uses for."""

    def test_as_many_misses(self):
        for seed in range(30):
            for rule in RULES:
                for room in (1, 2, 3, 4, 5, 8, 20, 100, 1024):
                    row = drawn_row(seed, 399, 3 + 6 * seed)
                    told = call_by_call(answers([1, rule, room] + [number for key in row for number in (2, key)]))
                    missed = sum(1 for answer in told[1:] if answer != [1])
                    self.assertEqual([missed], misses(rule, room, row), (seed, rule, room))


if __name__ == "__main__":
    unittest.main()
