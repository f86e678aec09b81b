"""begin: what it answers, what it takes up, what it forgets, and what it refuses."""

import unittest

from telling import (
    RULES, TOP_KEY, Telling, answers, begun, calls_of, came, dropped, given_for, held, not_held, nothing_dropped,
    refused, sent, stands, there,
)

WRONG_RULES = (-1, 5, -2147483648, 2147483647)
WRONG_ROOMS = (0, 1025, -1, -2147483648, 2147483647)

# For each rule, in room 3: calls, and calls behind them whose answers tell all that is kept.
KEPT = {
    # 1 2 3; 1 is there and nothing moves.
    0: (came(1, 2, 3) + there(1),
        stands(1, 2, 3) + sent(4, 1) + sent(5, 2) + sent(6, 3) + stands(4, 5, 6)),
    # 1 2 3, 1 is there: 2 3 1.
    1: (came(1, 2, 3) + there(1),
        stands(2, 3, 1) + sent(4, 2) + sent(5, 3) + sent(6, 1) + stands(4, 5, 6)),
    # 1:3 2:1 3:2, so 2 3 1. Behind it: 4:1 3:2 1:3; 4:4 is counted on and 3:2 is the fewest.
    2: (came(1, 2, 3) + there(1, 1, 3),
        stands(2, 3, 1) + sent(4, 2) + there(4, 4, 4) + stands(3, 1, 4) + sent(5, 3)),
    # 1* 2* 3. Behind it: 2* 3 1, 3 1 2, x3: 1 2 4.
    3: (came(1, 2, 3) + there(2, 1),
        stands(1, 2, 3) + sent(4, 3) + stands(1, 2, 4) + sent(5, 1) + stands(2, 4, 5)),
    # 2 3 | 1. Behind it: 5 6 | 1, as 1 is safe and stays; then 5 is: 6 1 | 5.
    4: (came(1, 2, 3) + there(1),
        stands(2, 3, 1) + sent(4, 2) + sent(5, 3) + sent(6, 4) + there(5) + stands(6, 1, 5) + sent(7, 6) + sent(8, 1)),
}


class Begins(Telling):
    def test_it_answers_0(self):
        for rule in RULES:
            for room in (1, 2, 3, 512, 1023, 1024):
                self.tells(begun(rule, room))

    def test_no_key_is_there(self):
        for rule in RULES:
            for room in (1, 2, 1024):
                self.tells(begun(rule, room), stands(), not_held(0, 1, rule, room, TOP_KEY))
                self.tells(begun(rule, room), nothing_dropped(0, 1, rule, room, TOP_KEY), stands())
                self.tells(begun(rule, room), came(0))
                self.tells(begun(rule, room), came(room))

    def test_room_1(self):
        for rule in RULES:
            self.tells(begun(rule, 1), came(5), stands(5), sent(6, 5), stands(6), not_held(5), held(6))

    def test_room_1024(self):
        # As many keys as a list has calls for.
        keys = list(range(398))
        for rule in RULES:
            self.tells(begun(rule, 1024), came(*keys), stands(*keys))

    def test_the_room_is_what_it_says(self):
        keys = list(range(1, 397))
        for rule in RULES:
            for room in (2, 3, 4, 5, 100, 395, 396):
                self.tells(begun(rule, room), came(*keys[:room]), sent(1000, 1))
            self.tells(begun(rule, 397), came(*keys), came(1000), stands(*keys, 1000))


class BeginsAgain(Telling):
    def test_no_key_is_there_afterwards(self):
        for rule in RULES:
            before = KEPT[rule][0]
            for later in RULES:
                for room in (1, 2, 3, 1024):
                    self.tells(begun(rule, 3), before, held(1, 2, 3), begun(later, room), not_held(1, 2, 3), stands())
                    self.tells(begun(rule, 3), before, begun(later, room), nothing_dropped(1, 2, 3), came(1), stands(1))

    def test_it_is_as_if_for_the_first_time(self):
        # So no use, no mark and no safe key is left over, whatever rule was ahead.
        for rule in RULES:
            for later in RULES:
                before, behind = KEPT[later]
                self.tells(begun(rule, 3), KEPT[rule][0], begun(later, 3), before, behind)
                self.tells(begun(rule, 3), *KEPT[rule], begun(later, 3), before, behind)

    def test_uses_are_forgotten(self):
        # 1 was used three times ahead; then 1:1 2:2, and 1 leaves.
        self.tells(begun(2, 2), came(1), there(1, 1), begun(2, 2), came(1, 2), there(2), sent(3, 1))

    def test_marks_are_forgotten(self):
        # 1 was marked ahead; then 1 2, and 1 leaves.
        self.tells(begun(3, 2), came(1), there(1), begun(3, 2), came(1, 2), sent(3, 1))

    def test_safe_keys_are_forgotten(self):
        # 1 was safe ahead; then 1 2, and 1 leaves.
        self.tells(begun(4, 2), came(1), there(1), begun(4, 2), came(1, 2), stands(1, 2), sent(3, 1))

    def test_another_room(self):
        for rule in RULES:
            self.tells(begun(rule, 3), came(1, 2, 3), begun(rule, 1), came(1), sent(2, 1), stands(2))
            self.tells(begun(rule, 1), came(1), sent(2, 1), begun(rule, 3), came(1, 2, 3), sent(4, 1), stands(2, 3, 4))

    def test_another_room_for_the_safe_ones(self):
        # Room 2 has one safe, room 4 has two, room 1 has none.
        self.tells(
            begun(4, 2), came(1, 2), there(1, 2), stands(1, 2), sent(3, 1), stands(3, 2),
            begun(4, 4), came(1, 2, 3, 4), there(1, 2), stands(3, 4, 1, 2), sent(5, 3), sent(6, 4), stands(5, 6, 1, 2),
            begun(4, 1), came(1), there(1), sent(2, 1),
        )

    def test_it_may_come_again_and_again(self):
        for rule in RULES:
            self.tells(*[begun(rule, 1 + again) for again in range(400)])
            self.tells(*[begun(rule, 2) + came(7) for again in range(200)])


class Refuses(Telling):
    def pairs_refused(self):
        for rule in WRONG_RULES:
            for room in (1, 3, 1024) + WRONG_ROOMS:
                yield refused(rule, room)
        for rule in RULES:
            for room in WRONG_ROOMS:
                yield refused(rule, room)

    def test_it_answers_minus_2_alone(self):
        for wrong in self.pairs_refused():
            self.tells(begun(0, 1), wrong)

    def test_the_outermost_that_are_not_refused(self):
        for rule in (0, 4):
            for room in (1, 1024):
                self.tells(begun(rule, room), came(1), begun(rule, room), stands())

    def test_nothing_has_changed(self):
        # The keys, their order, their uses and marks, the rule and the room: all are asked for behind it.
        for rule in RULES:
            before, behind = KEPT[rule]
            self.tells(begun(rule, 3), before, behind)
            for wrong in self.pairs_refused():
                self.tells(begun(rule, 3), before, wrong, behind)
                self.tells(begun(rule, 3), before, wrong, held(1, 2, 3), wrong, not_held(0, 4), behind, wrong)
                self.tells(begun(rule, 3), wrong, before, behind)

    def test_nothing_has_changed_where_keys_were_dropped(self):
        for wrong in self.pairs_refused():
            for rule in RULES:
                self.tells(begun(rule, 2), came(1, 2), dropped(1), wrong, not_held(1), stands(2), came(3), sent(4, 2))

    def test_refused_ahead_of_every_call(self):
        for rule in RULES:
            pairs = begun(rule, 3) + KEPT[rule][0] + KEPT[rule][1]
            among = pairs[:1]
            for pair in pairs[1:]:
                among = among + refused(5, 1) + refused(rule, 1025) + [pair]
            self.assertEqual(answers(calls_of(among)), given_for(among))

    def test_an_empty_cache_stays_as_it_is(self):
        for wrong in self.pairs_refused():
            self.tells(begun(1, 2), wrong, stands(), came(1, 2), there(1), sent(3, 2))


if __name__ == "__main__":
    unittest.main()
