"""use: rows worked out by hand from the document's rules.

In the remarks a line reads first to last; `x1` says that 1 leaves, `*` is a mark,
`1:2` is key 1 with two uses, and `| 2` are the safe ones.
"""

import unittest

from cacherules.cache import Cache
from telling import RULES, TOP_KEY, Telling, begun, came, dropped, held, not_held, sent, stands, there


class Answers(Telling):
    def test_0_as_long_as_none_has_to_leave_then_2_and_which(self):
        for rule in RULES:
            self.tells(begun(rule, 3), came(5, 6, 7), sent(8, 5), sent(9, 6), sent(5, 7), sent(6, 8))

    def test_1_where_the_key_was_there(self):
        for rule in RULES:
            self.tells(begun(rule, 3), came(5), there(5, 5), came(6), there(6, 5, 6, 6))

    def test_a_key_that_came_is_there_and_one_that_left_is_not(self):
        for rule in RULES:
            self.tells(begun(rule, 2), not_held(5), came(5), held(5), came(6), held(5, 6))
            self.tells(begun(rule, 2), came(5, 6), sent(7, 5), not_held(5), held(6, 7), stands(6, 7))

    def test_the_key_that_comes_is_never_the_one_that_leaves(self):
        # Even where all others are used more often, are marked or are safe.
        for rule in RULES:
            self.tells(begun(rule, 2), came(1, 2), there(1, 2, 1, 2), sent(3, 1), held(3))

    def test_the_least_and_the_greatest_key(self):
        for rule in RULES:
            self.tells(begun(rule, 1), came(0), sent(TOP_KEY, 0), there(TOP_KEY), sent(0, TOP_KEY), there(0))


class FiveRulesFiveKeys(Telling):
    """One row in room 3, behind which each rule has another key leave for key 9."""

    def test_rule_0(self):
        # 1 2 3. 4 x1: 2 3 4. 5 x2: 3 4 5. 9 x3.
        self.tells(begun(0, 3), came(1, 2), there(2), came(3), there(1), sent(4, 1), sent(5, 2), sent(9, 3))

    def test_rule_1(self):
        # 1 2 3, 1 is there: 2 3 1. 4 x2: 3 1 4. 5 x3: 1 4 5. 9 x1.
        self.tells(begun(1, 3), came(1, 2), there(2), came(3), there(1), sent(4, 2), sent(5, 3), sent(9, 1))

    def test_rule_2(self):
        # 3:1 2:2 1:2. 4 x3: 4:1 2:2 1:2. 5 x4: 5:1 2:2 1:2. 9 x5.
        self.tells(begun(2, 3), came(1, 2), there(2), came(3), there(1), sent(4, 3), sent(5, 4), sent(9, 5))

    def test_rule_3(self):
        # 1* 2* 3. 4: 2* 3 1, 3 1 2, x3: 1 2 4. 5 x1: 2 4 5. 9 x2.
        self.tells(begun(3, 3), came(1, 2), there(2), came(3), there(1), sent(4, 3), sent(5, 1), sent(9, 2))

    def test_rule_4(self):
        # 1 | 2. 1 3 | 2. 1 is there: 3 2 | 1. 4 x3: 2 4 | 1. 5 x2: 4 5 | 1. 9 x4.
        self.tells(begun(4, 3), came(1, 2), there(2), came(3), there(1), sent(4, 3), sent(5, 2), sent(9, 4))


class FiveRulesFiveKeysInRoom4(Telling):
    """As before, with a safe one more."""

    def test_rule_0(self):
        # 1 2 3 4. 5 x1: 2 3 4 5. 9 x2.
        self.tells(begun(0, 4), came(1), there(1), came(2, 3), there(3, 2), came(4), sent(5, 1), sent(9, 2))

    def test_rule_1(self):
        # 1 2 3, 3 and 2 are there: 1 3 2. 1 3 2 4. 5 x1: 3 2 4 5. 9 x3.
        self.tells(begun(1, 4), came(1), there(1), came(2, 3), there(3, 2), came(4), sent(5, 1), sent(9, 3))

    def test_rule_2(self):
        # 1:2 3:2 2:2. 4:1 1:2 3:2 2:2. 5 x4: 5:1 1:2 3:2 2:2. 9 x5.
        self.tells(begun(2, 4), came(1), there(1), came(2, 3), there(3, 2), came(4), sent(5, 4), sent(9, 5))

    def test_rule_3(self):
        # 1* 2* 3* 4. 5: 4 1 2 3, x4: 1 2 3 5. 9 x1.
        self.tells(begun(3, 4), came(1), there(1), came(2, 3), there(3, 2), came(4), sent(5, 4), sent(9, 1))

    def test_rule_4(self):
        # | 1. 2 3 | 1. 2 | 1 3. 2 is there: | 1 3 2, one too many: 1 | 3 2. 1 4 | 3 2. 5 x1: 4 5 | 3 2. 9 x4.
        self.tells(begun(4, 4), came(1), there(1), came(2, 3), there(3, 2), came(4), sent(5, 1), sent(9, 4))


class RuleZero(Telling):
    def test_a_use_of_a_key_that_is_there_moves_nothing(self):
        self.tells(begun(0, 3), came(1, 2, 3), there(1, 2, 1, 3, 1), stands(1, 2, 3), sent(4, 1), sent(5, 2))

    def test_a_key_that_comes_again_stands_at_the_end(self):
        self.tells(begun(0, 2), came(1, 2), sent(3, 1), sent(1, 2), stands(3, 1), sent(2, 3), stands(1, 2))


class RuleOne(Telling):
    def test_a_used_key_goes_to_the_end(self):
        # 1 2 3, 1: 2 3 1, 3: 2 1 3. 4 x2: 1 3 4. 1: 3 4 1. 5 x3.
        self.tells(begun(1, 3), came(1, 2, 3), there(1, 3), sent(4, 2), there(1), sent(5, 3), stands(4, 1, 5))

    def test_uses_are_not_counted(self):
        self.tells(begun(1, 2), came(1), there(1, 1, 1), came(2), sent(3, 1))


class RuleTwo(Telling):
    def test_the_fewest_uses_leave(self):
        # 1:3 2:2 3:1. 4 x3: 1:3 2:2 4:1. 4 twice more: 1:3 2:2 4:3. 5 x2.
        self.tells(begun(2, 3), came(1), there(1, 1), came(2), there(2), came(3), sent(4, 3), there(4, 4), sent(5, 2))

    def test_of_several_the_one_whose_last_use_is_longest_ago_leaves(self):
        # 1 came first, but 2's last use is longest ago: 2:2 1:2. 3 x2. 3: 1:2 3:2. 4 x1.
        self.tells(begun(2, 2), came(1, 2), there(2, 1), sent(3, 2), there(3), sent(4, 1), sent(5, 4))

    def test_the_last_use_of_many_counts_not_the_first_nor_the_coming(self):
        # 1:3 2:3 3:3, whose last uses come 3, 1, 2: these leave one after another, each for one with three uses.
        self.tells(
            begun(2, 3), came(1, 2, 3), there(1, 2, 3, 3, 1, 2), stands(3, 1, 2),
            sent(4, 3), there(4, 4), sent(5, 1), there(5, 5), sent(6, 2), stands(6, 4, 5),
        )

    def test_its_coming_is_one_use(self):
        # 1:1 2:2. 3 x1. 3: 2:2 3:2. 4 x2.
        self.tells(begun(2, 2), came(1, 2), there(2), sent(3, 1), there(3), sent(4, 2))
        # No list is long enough to tell it from none, which the greatest count alone does.
        cache = Cache()
        cache.begin(2, 2)
        cache.use(7)
        self.assertEqual(cache.uses, {7: 1})
        cache.use(7)
        self.assertEqual(cache.uses, {7: 2})

    def test_a_key_that_left_and_comes_again_is_counted_anew(self):
        # 1:2 2:3. 3 x1: 3:1 2:3. 1 x3: 1:1 2:3. 4 x1.
        self.tells(begun(2, 2), came(1), there(1), came(2), there(2, 2), sent(3, 1), sent(1, 3), sent(4, 1))

    def test_uses_are_counted_to_4294967295_at_most(self):
        # No list is long enough to count so far, so the count is set ahead.
        cache = Cache()
        cache.begin(2, 2)
        for key in (1, 2):
            cache.use(key)
            cache.uses[key] = 4294967294
        # 2 is used once more than 1, but both have the full count: 2's last use is longest ago.
        for key in (2, 2, 1):
            self.assertEqual(cache.use(key), [1])
        self.assertEqual(cache.uses, {1: 4294967295, 2: 4294967295})
        self.assertEqual(cache.order(), [2, 2, 1])
        self.assertEqual(cache.use(3), [2, 2])

    def test_just_below_the_full_count_uses_tell(self):
        cache = Cache()
        cache.begin(2, 2)
        for key in (1, 2):
            cache.use(key)
            cache.uses[key] = 4294967293
        for key in (2, 2, 1):
            cache.use(key)
        self.assertEqual(cache.uses, {1: 4294967294, 2: 4294967295})
        self.assertEqual(cache.use(3), [2, 1])


class RuleThree(Telling):
    def test_a_used_key_is_marked_and_spared(self):
        # 1* 2. 3: 2 1, x2: 1 3. 4 x1.
        self.tells(begun(3, 2), came(1, 2), there(1), sent(3, 2), stands(1, 3), sent(4, 1))

    def test_a_use_marks_and_does_not_move(self):
        # 1* 2* 3, marked in the other order. 4: 3 1 2, x3.
        self.tells(begun(3, 3), came(1, 2, 3), there(2, 1), stands(1, 2, 3), sent(4, 3), stands(1, 2, 4))

    def test_all_are_marked(self):
        # 1* 2* 3*. 4: all marks are lost: 1 2 3, x1: 2 3 4. 5 x2.
        self.tells(begun(3, 3), came(1, 2, 3), there(3, 1, 2), sent(4, 1), stands(2, 3, 4), sent(5, 2), sent(6, 3))

    def test_a_key_comes_without_a_mark(self):
        # 1* 2. 3 x2: 1 3. 4 x1, 5 x3: the coming of 3 and 4 marked neither.
        self.tells(begun(3, 2), came(1, 2), there(1), sent(3, 2), sent(4, 1), sent(5, 3), sent(6, 4))

    def test_a_key_that_left_comes_again_without_a_mark(self):
        # 1* 2. 3 x2: 1 3. 4 x1: 3 4. 1 x3: 4 1. 5 x4: 1 5. 6 x1.
        self.tells(begun(3, 2), came(1, 2), there(1), sent(3, 2), sent(4, 1), sent(1, 3), sent(5, 4), sent(6, 1))

    def test_a_mark_is_one_however_often_a_key_is_used(self):
        # 1* 2. 3 x2: 1 3. 4 x1.
        self.tells(begun(3, 2), came(1), there(1, 1, 1), came(2), sent(3, 2), sent(4, 1))

    def test_a_mark_stays_while_its_key_is_not_first(self):
        # 1 2 3*. 4 x1: 2 3* 4. 5 x2: 3* 4 5. 6: 4 5 3, x4: 5 3 6. 7 x5: 3 6 7. 8 x3.
        self.tells(
            begun(3, 3), came(1, 2, 3), there(3), sent(4, 1), sent(5, 2), sent(6, 4), stands(5, 3, 6),
            sent(7, 5), sent(8, 3),
        )

    def test_a_key_that_lost_its_mark_can_be_marked_again(self):
        # 1* 2. 3 x2: 1 3. 1 is there: 1* 3. 4: 3 1, x3: 1 4.
        self.tells(begun(3, 2), came(1, 2), there(1), sent(3, 2), there(1), sent(4, 3), stands(1, 4))

    def test_marks_are_lost_only_where_one_has_to_leave(self):
        # 1*. 2 and 3 come: 1* 2 3. 4: 2 3 1, x2.
        self.tells(begun(3, 3), came(1), there(1), came(2, 3), stands(1, 2, 3), sent(4, 2), stands(3, 1, 4))


class RuleFour(Telling):
    def test_room_1_has_no_safe_ones(self):
        # 1, used: safe, one too many, back.
        self.tells(begun(4, 1), came(1), there(1, 1), stands(1), sent(2, 1), there(2), sent(1, 2), stands(1))

    def test_room_2_has_one_safe(self):
        # 2 | 1. 3 x2: 3 | 1. 3 is there: | 1 3, one too many: 1 | 3. 4 x1: 4 | 3.
        self.tells(
            begun(4, 2), came(1, 2), there(1), stands(2, 1), sent(3, 2), stands(3, 1),
            there(3), stands(1, 3), sent(4, 1), stands(4, 3),
        )

    def test_room_3_has_one_safe(self):
        # 2 3 | 1. 2: 3 1 | 2. 4 x3: 1 4 | 2. 5 x1: 4 5 | 2. 6 x4: 5 6 | 2.
        self.tells(
            begun(4, 3), came(1, 2, 3), there(1), stands(2, 3, 1), there(2), stands(3, 1, 2),
            sent(4, 3), sent(5, 1), sent(6, 4), stands(5, 6, 2),
        )

    def test_room_4_has_two_safe(self):
        # 3 4 | 1 2. 5 x3, 6 x4, 7 x5: 6 7 | 1 2. 7: 6 1 | 2 7. 8 x6: 1 8 | 2 7. 9 x1.
        self.tells(
            begun(4, 4), came(1, 2, 3, 4), there(1, 2), stands(3, 4, 1, 2), sent(5, 3), sent(6, 4), sent(7, 5),
            there(7), stands(6, 1, 2, 7), sent(8, 6), sent(9, 1), stands(8, 9, 2, 7),
        )

    def test_room_5_has_two_safe(self):
        # 3 4 5 | 1 2. 4: 3 5 1 | 2 4. 6 x3: 5 1 6 | 2 4. 7 x5, 8 x1: 6 7 8 | 2 4.
        self.tells(
            begun(4, 5), came(1, 2, 3, 4, 5), there(1, 2, 4), stands(3, 5, 1, 2, 4),
            sent(6, 3), sent(7, 5), sent(8, 1), stands(6, 7, 8, 2, 4),
        )

    def test_room_6_has_three_safe(self):
        # 4 5 6 | 1 2 3. 7 x4. 7: 5 6 1 | 2 3 7.
        self.tells(
            begun(4, 6), came(1, 2, 3, 4, 5, 6), there(1, 2, 3), sent(7, 4), stands(5, 6, 7, 1, 2, 3),
            there(7), stands(5, 6, 1, 2, 3, 7), sent(8, 5),
        )

    def test_a_safe_key_goes_to_the_end_of_the_safe_ones(self):
        # 3 4 | 1 2, 1: 3 4 | 2 1. 3: 4 2 | 1 3. 5 x4, 6 x2.
        self.tells(
            begun(4, 4), came(1, 2, 3, 4), there(1, 2, 1), stands(3, 4, 2, 1),
            there(3), stands(4, 2, 1, 3), sent(5, 4), sent(6, 2),
        )

    def test_one_too_many_goes_to_the_end_of_the_line(self):
        # 2 3 | 1, 3: 2 1 | 3. 4 x2, 5 x1: it stands behind 2 and ahead of 4.
        self.tells(begun(4, 3), came(1, 2, 3), there(1, 3), stands(2, 1, 3), sent(4, 2), sent(5, 1), sent(6, 4))

    def test_a_key_that_was_given_back_can_be_safe_again(self):
        # 1 | 2, 1: 2 | 1. 3 x2.
        self.tells(begun(4, 2), came(1, 2), there(1, 2), stands(1, 2), there(1), stands(2, 1), sent(3, 2))

    def test_both_lines_together_have_the_room(self):
        # | 1. 2 | 1. 3 x2.
        self.tells(begun(4, 2), came(1), there(1), came(2), sent(3, 2), stands(3, 1))
        # | 1 2. 3 | 1 2. 3 4 | 1 2. 5 x3.
        self.tells(begun(4, 4), came(1, 2), there(1, 2), came(3, 4), sent(5, 3), stands(4, 5, 1, 2))

    def test_a_key_that_left_comes_again_into_the_line(self):
        # 2 | 1, 2: 1 | 2. 3 x1: 3 | 2. 1 x3: 1 | 2. 4 x1.
        self.tells(begun(4, 2), came(1, 2), there(1, 2), sent(3, 1), sent(1, 3), stands(1, 2), sent(4, 1))


class ManyKeys(Telling):
    """190 keys there at once, used again in part, and some that leave."""

    keys = list(range(190))
    again = list(range(0, 190, 2))
    odd = list(range(1, 190, 2))

    def leaves(self, rule, gone):
        """The first ten that leave, for keys that come after all of it."""
        sends = [pair for place in range(10) for pair in sent(1000 + place, gone[place])]
        self.tells(begun(rule, 190), came(*self.keys), there(*self.again), sends, held(1009), not_held(gone[9]))

    def test_rule_0(self):
        self.leaves(0, list(range(10)))

    def test_rule_1(self):
        self.leaves(1, self.odd)

    def test_rule_2(self):
        # 1, 3 .. 189 have one use; 1000 and so on have one, too, but later.
        self.leaves(2, self.odd)

    def test_rule_3(self):
        # 0* 1 2* 3 ..: each marked one at the front is spared.
        self.leaves(3, self.odd)

    def test_rule_4(self):
        # All 95 of them are safe.
        self.leaves(4, self.odd)

    def test_rule_4_with_more_than_are_safe(self):
        # Room 188 has 94 safe, so 0 goes back, to the end of 1 3 .. 185 187.
        keys = list(range(188))
        odd = list(range(1, 188, 2))
        even = list(range(0, 188, 2))
        self.tells(begun(4, 188), came(*keys), there(*even, 1), stands(*odd[1:], 0, *even[1:], 1), sent(1000, 3))

    def test_rule_2_lets_them_leave_by_their_uses(self):
        # Key k is used k times: the row is told from the greatest on.
        uses = [pair for key in range(25, 0, -1) for pair in came(key) + there(*[key] * (key - 1))]
        self.tells(begun(2, 25), uses, stands(*range(1, 26)), sent(100, 1), there(100), sent(101, 2), there(101, 101))

    def test_dropped_ones_make_room(self):
        for rule in RULES:
            self.tells(
                begun(rule, 120), came(*self.keys[:120]), dropped(*self.keys[:120:2]), stands(*self.keys[1:120:2]),
                came(*range(1000, 1060)), sent(2000, 1), sent(2001, 3),
            )


if __name__ == "__main__":
    unittest.main()
