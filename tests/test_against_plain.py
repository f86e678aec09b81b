"""misses and curve against the rules written out once more, in another way, over many rows.

Here every key has a place in time instead of a place in a list, and whoever leaves is
looked for among all of them. curve is also held to what misses answers for each room.
"""

import itertools
import unittest

from cacherules.misses import curve, misses

RULES = (0, 1, 2, 3, 4)


class Plain:
    def __init__(self, rule, room):
        self.rule = rule
        self.room = room
        self.now = 0
        self.place = {}
        self.uses = {}
        self.marks = set()
        self.safe = set()

    def to_end(self, key):
        self.now += 1
        self.place[key] = self.now

    def first_of(self, keys):
        return min(keys, key=lambda key: self.place[key])

    def leaver(self):
        if self.rule == 2:
            fewest = min(self.uses.values())
            return self.first_of([key for key in self.place if self.uses[key] == fewest])
        first = self.first_of([key for key in self.place if key not in self.safe])
        while first in self.marks:
            self.marks.remove(first)
            self.to_end(first)
            first = self.first_of(self.place)
        return first

    def misses_it(self, key):
        if key not in self.place:
            if len(self.place) == self.room:
                gone = self.leaver()
                del self.place[gone], self.uses[gone]
            self.uses[key] = 1
            self.to_end(key)
            return True
        self.uses[key] += 1
        if self.rule in (1, 2, 4):
            self.to_end(key)
        if self.rule == 3:
            self.marks.add(key)
        if self.rule == 4:
            self.safe.add(key)
            if len(self.safe) > self.room // 2:
                back = self.first_of(self.safe)
                self.safe.remove(back)
                self.to_end(back)
        return False


def plain_misses(rule, room, keys):
    plain = Plain(rule, room)
    return [sum(1 for key in keys if plain.misses_it(key))]


def plain_curve(most, keys):
    """By rule 1 a key is there when fewer others than the room were used since its last use."""
    needed = []
    last = {}
    for now, key in enumerate(keys):
        if key in last:
            needed.append(len(set(keys[last[key]:now])))
        last[key] = now
    hits = [needed.count(room) for room in range(most + 1)]
    return [0] + [len(keys) - sum(hits[:room + 1]) for room in range(1, most + 1)]


def drawn_row(seed, length, kinds):
    """A row of keys that is the same whenever the seed is; low keys come oftener."""
    state = seed
    row = []
    for _ in range(length):
        state = (state * 6364136223846793005 + 1442695040888963407) % 2**64
        row.append((state >> 33) % kinds * ((state >> 20) % kinds) // kinds)
    return row


class AgainstPlain(unittest.TestCase):
    def same(self, rule, room, row):
        self.assertEqual(misses(rule, room, row), plain_misses(rule, room, row), (rule, room, row))

    def test_every_short_row(self):
        for row in itertools.product(range(4), repeat=6):
            if row[0] == 0:
                for rule in RULES:
                    for room in (1, 2, 3, 4):
                        self.same(rule, room, list(row))

    def test_drawn_rows(self):
        for seed in range(40):
            for rule in RULES:
                for room in (1, 2, 3, 4, 5, 6, 7, 8, 13):
                    self.same(rule, room, drawn_row(seed, 120, 3 + seed % 25))

    def test_long_rows(self):
        for rule in RULES:
            for room in (31, 64):
                self.same(rule, room, drawn_row(room, 8192, 150))


class CurveAgainstMisses(unittest.TestCase):
    def same(self, most, row, rooms=None):
        answer = curve(most, row)
        self.assertEqual(len(answer), most + 1)
        self.assertEqual(answer[0], 0)
        for room in rooms or range(1, most + 1):
            self.assertEqual([answer[room]], misses(1, room, row), (most, room, row[:200]))

    def test_every_short_row(self):
        for row in itertools.product(range(4), repeat=6):
            if row[0] == 0:
                self.same(5, list(row))

    def test_drawn_rows(self):
        for seed in range(60):
            for most in (0, 1, 2, 5, 13, 40):
                self.same(most, drawn_row(seed, 120, 2 + seed % 40))

    def test_most_1024(self):
        self.same(1024, drawn_row(3, 100, 60))

    def test_long_rows(self):
        rooms = (1, 2, 3, 31, 100, 511, 512, 900, 1023, 1024)
        for kinds in (6, 150, 1100, 1250, 5000):
            self.same(1024, drawn_row(kinds, 8192, kinds), rooms)


class CurveAgainstPlain(unittest.TestCase):
    def same(self, most, row):
        answer = curve(most, row)
        expected = plain_curve(most, row)
        self.assertEqual(len(answer), len(expected), (most, row[:200]))
        for room, number in enumerate(expected):
            self.assertEqual(answer[room], number, (most, room, row[:200]))

    def test_drawn_rows(self):
        for seed in range(60):
            for most in (0, 1, 2, 5, 13, 40):
                self.same(most, drawn_row(seed, 200, 2 + seed % 50))

    def test_every_room_of_long_rows(self):
        for kinds in (6, 150, 1024, 1100, 1250, 5000):
            self.same(1024, drawn_row(kinds, 8192, kinds))


if __name__ == "__main__":
    unittest.main()
