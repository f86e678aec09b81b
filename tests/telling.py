"""Calls and what is to be answered to them, side by side, so that rows read as they are told.

Each of the functions below answers a list of pairs: a call, and the numbers it answers.
"""

import unittest

from cacherules.cache import answers

RULES = (0, 1, 2, 3, 4)
TOP_KEY = 18446744073709551615


def begun(rule, room):
    return [([1, rule, room], [0])]


def refused(rule, room):
    return [([1, rule, room], [-2])]


def came(*keys):
    """Each key is used and comes, and none leaves."""
    return [([2, key], [0]) for key in keys]


def there(*keys):
    """Each key is used and was there."""
    return [([2, key], [1]) for key in keys]


def sent(key, gone):
    """The key is used and comes, and the other one leaves for it."""
    return [([2, key], [2, gone])]


def dropped(*keys):
    return [([3, key], [1]) for key in keys]


def nothing_dropped(*keys):
    return [([3, key], [0]) for key in keys]


def held(*keys):
    return [([4, key], [1]) for key in keys]


def not_held(*keys):
    return [([4, key], [0]) for key in keys]


def stands(*keys):
    return [([5], [len(keys)] + list(keys))]


def calls_of(pairs):
    return [number for call, _ in pairs for number in call]


def given_for(pairs):
    return [number for _, answer in pairs for number in [len(answer)] + answer]


def call_by_call(given):
    """What was given back, a list for each call."""
    told = []
    place = 0
    while place < len(given):
        if given[place] < 1:
            raise AssertionError(("each call answers one number at least", given))
        told.append(given[place + 1:place + 1 + given[place]])
        place += 1 + given[place]
    return told


class Telling(unittest.TestCase):
    def tells(self, *parts):
        pairs = [pair for part in parts for pair in part]
        self.assertLessEqual(len(pairs), 400, "the document has no more calls than that")
        given = answers(calls_of(pairs))
        if given != given_for(pairs):
            for place, (pair, told) in enumerate(zip(pairs, call_by_call(given))):
                self.assertEqual(told, pair[1], (place, pair[0], parts))
            self.fail((given, given_for(pairs)))
