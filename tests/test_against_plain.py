"""misses against the rules written out once more, in another way, over many rows.

Here every key has a place in time instead of a place in a list, and whoever leaves is
looked for among all of them.
"""

import itertools
import unittest

from cacherules.misses import misses

RULES = (0, 1, 2, 3, 4)


class Plain:
    def __init__(self, rule, room):
        self.rule = rule
        self.room = room
        self.now = 0
        self.place = {}
        self.uses = {}
        self.marks = set()
        self.safe = set()

    def to_end(self, key):
        self.now += 1
        self.place[key] = self.now

    def first_of(self, keys):
        return min(keys, key=lambda key: self.place[key])

    def leaver(self):
        if self.rule == 2:
            fewest = min(self.uses.values())
            return self.first_of([key for key in self.place if self.uses[key] == fewest])
        first = self.first_of([key for key in self.place if key not in self.safe])
        while first in self.marks:
            self.marks.remove(first)
            self.to_end(first)
            first = self.first_of(self.place)
        return first

    def misses_it(self, key):
        if key not in self.place:
            if len(self.place) == self.room:
                gone = self.leaver()
                del self.place[gone], self.uses[gone]
            self.uses[key] = 1
            self.to_end(key)
            return True
        self.uses[key] += 1
        if self.rule in (1, 2, 4):
            self.to_end(key)
        if self.rule == 3:
            self.marks.add(key)
        if self.rule == 4:
            self.safe.add(key)
            if len(self.safe) > self.room // 2:
                back = self.first_of(self.safe)
                self.safe.remove(back)
                self.to_end(back)
        return False


def plain_misses(rule, room, keys):
    plain = Plain(rule, room)
    return [sum(1 for key in keys if plain.misses_it(key))]


def drawn_row(seed, length, kinds):
    """A row of keys that is the same whenever the seed is; low keys come oftener."""
    state = seed
    row = []
    for _ in range(length):
        state = (state * 6364136223846793005 + 1442695040888963407) % 2**64
        row.append((state >> 33) % kinds * ((state >> 20) % kinds) // kinds)
    return row


class AgainstPlain(unittest.TestCase):
    def same(self, rule, room, row):
        self.assertEqual(misses(rule, room, row), plain_misses(rule, room, row), (rule, room, row))

    def test_every_short_row(self):
        for row in itertools.product(range(4), repeat=6):
            if row[0] == 0:
                for rule in RULES:
                    for room in (1, 2, 3, 4):
                        self.same(rule, room, list(row))

    def test_drawn_rows(self):
        for seed in range(40):
            for rule in RULES:
                for room in (1, 2, 3, 4, 5, 6, 7, 8, 13):
                    self.same(rule, room, drawn_row(seed, 120, 3 + seed % 25))

    def test_long_rows(self):
        for rule in RULES:
            for room in (31, 64):
                self.same(rule, room, drawn_row(room, 8192, 150))


if __name__ == "__main__":
    unittest.main()
