"""misses: rows worked out by hand from the document's rules.

In the remarks a line reads first to last; 4! is a miss of key 4, `x1` says that 1 leaves,
`*` is a mark, `1:2` is key 1 with two uses, and `| 2` are the safe ones.
"""

import unittest

from cacherules.misses import Lines, misses, uses_after

RULES = (0, 1, 2, 3, 4)
TOP_KEY = 18446744073709551615


class Counting(unittest.TestCase):
    def counts(self, rule, room, keys, expected):
        self.assertEqual(misses(rule, room, keys), [expected])


class FiveRulesFiveAnswers(Counting):
    """One row in room 3, of which no two rules have as many misses."""

    row = [1, 2, 1, 3, 4, 2, 2, 3, 4, 3]

    def test_rule_0(self):
        # 1! 2! 3!: 1 2 3. 4! x1: 2 3 4. All else is there.
        self.counts(0, 3, self.row, 4)

    def test_rule_1(self):
        # 1! 2!, 1 to the end, 3!: 2 1 3. 4! x2: 1 3 4. 2! x1: 3 4 2. All else is there.
        self.counts(1, 3, self.row, 5)

    def test_rule_2(self):
        # 1! 2! 3!: 2:1 3:1 1:2. 4! x2: 3:1 4:1 1:2. 2! x3: 4:1 2:1 1:2. 2 is there: 4:1 1:2 2:2.
        # 3! x4: 3:1 1:2 2:2. 4! x3: 4:1 1:2 2:2. 3! x4.
        self.counts(2, 3, self.row, 8)

    def test_rule_3(self):
        # 1! 2! 3!: 1* 2 3. 4!: 2 3 1, x2: 3 1 4. 2! x3: 1 4 2. 2 is there: 1 4 2*.
        # 3! x1: 4 2* 3. All else is there.
        self.counts(3, 3, self.row, 6)

    def test_rule_4(self):
        # 1! 2!, 1 is there: 2 | 1. 3!: 2 3 | 1. 4! x2: 3 4 | 1. 2! x3: 4 2 | 1.
        # 2 is there: 4 | 1 2, one too many: 4 1 | 2. 3! x4: 1 3 | 2. 4! x1: 3 4 | 2. 3 is there.
        self.counts(4, 3, self.row, 7)


class RuleZero(Counting):
    def test_a_use_of_a_key_that_is_there_moves_nothing(self):
        # 1 2, 1 is there. 3! x1: 2 3. 1! x2.
        self.counts(0, 2, [1, 2, 1, 3, 1], 4)

    def test_the_others_stay_too(self):
        # 1 2 3, 2 and 1 are there. 4! x1: 2 3 4. 2 is there. 5! x2: 3 4 5. 3 is there. 2!.
        self.counts(0, 3, [1, 2, 3, 2, 1, 4, 2, 5, 3, 2], 6)


class RuleOne(Counting):
    def test_a_used_key_goes_to_the_end(self):
        # 1 2, 1 is there: 2 1. 3! x2: 1 3. 1 is there.
        self.counts(1, 2, [1, 2, 1, 3, 1], 3)

    def test_the_first_one_leaves(self):
        # 1 2, 1 is there: 2 1. 3! x2: 1 3. 2! x1: 3 2. 3 is there.
        self.counts(1, 2, [1, 2, 1, 3, 2, 3], 4)

    def test_uses_are_not_counted(self):
        # 1, twice more there. 2!: 1 2. 3! x1: 2 3. 1! x2.
        self.counts(1, 2, [1, 1, 1, 2, 3, 1], 4)


class RuleTwo(Counting):
    def test_the_fewest_uses_leave(self):
        # 1:2. 2!: 2:1 1:2. 3! x2: 3:1 1:2. 1 is there.
        self.counts(2, 2, [1, 1, 2, 3, 1], 3)

    def test_of_several_the_last_use_longest_ago_leaves_not_the_first_come(self):
        # 1 came first, but 2's last use is longest ago: 2:2 1:2. 3! x2: 3:1 1:2. 1 is there.
        self.counts(2, 2, [1, 2, 2, 1, 3, 1], 3)
        # As before, then 2! x3.
        self.counts(2, 2, [1, 2, 2, 1, 3, 2], 4)

    def test_of_several_with_one_use_the_first_come_leaves(self):
        # 1:1 2:1 3:1. 4! x1: 2:1 3:1 4:1. 2 and 3 are there. 1! x4.
        self.counts(2, 3, [1, 2, 3, 4, 2, 3, 1], 5)

    def test_a_key_that_comes_does_not_leave_for_its_own_coming(self):
        # 1:2 2:2. 3! x1: 3:1 2:2. 3 is there.
        self.counts(2, 2, [1, 1, 2, 2, 3, 3], 3)

    def test_its_coming_is_one_use(self):
        # 1:1 2:2. 3! x1: 3:1 2:2. 3 is there: 2:2 3:2. 4! x2: 4:1 3:2. 3 is there. 2! x4.
        self.counts(2, 2, [1, 2, 2, 3, 3, 4, 3, 2], 5)
        lines = Lines(2, 2)
        lines.use(7)
        self.assertEqual(lines.uses, {7: 1})
        lines.use(7)
        self.assertEqual(lines.uses, {7: 2})

    def test_a_key_that_left_and_comes_again_is_counted_anew(self):
        # 1:2 2:3. 3! x1: 3:1 2:3. 1! x3: 1:1 2:3. 3! x1: 3:1 2:3. 1! x3.
        self.counts(2, 2, [1, 1, 2, 2, 2, 3, 1, 3, 1], 6)

    def test_uses_are_counted_to_4294967295_at_most(self):
        self.assertEqual(uses_after(1), 2)
        self.assertEqual(uses_after(4294967294), 4294967295)
        self.assertEqual(uses_after(4294967295), 4294967295)

    def test_the_full_count_makes_keys_equal(self):
        # No row is long enough to count so far, so the count is set ahead.
        lines = Lines(2, 2)
        for key in (1, 2):
            lines.use(key)
            lines.uses[key] = 4294967294
        # 2 is used once more than 1, but both have the full count: 2's last use is longest ago.
        for key in (2, 2, 1, 3):
            lines.use(key)
        self.assertEqual(lines.line, [3, 1])


class RuleThree(Counting):
    def test_a_used_key_is_marked_and_spared(self):
        # 1* 2. 3!: 2 1, x2: 1 3. 1 is there.
        self.counts(3, 2, [1, 2, 1, 3, 1], 3)

    def test_a_use_marks_and_does_not_move(self):
        # 1* 2* 3. 4!: 2* 3 1, 3 1 2, x3: 1 2 4. 5! x1: 2 4 5. 2 is there. 1!.
        self.counts(3, 3, [1, 2, 3, 2, 1, 4, 5, 2, 1], 6)

    def test_the_mark_is_lost_at_the_front(self):
        # 1* 2. 3!: 2 1, x2: 1 3. 4! x1: 3 4. 1!.
        self.counts(3, 2, [1, 2, 1, 3, 4, 1], 5)

    def test_the_spared_key_goes_to_the_end(self):
        # 1* 2 3. 4!: 2 3 1, x2: 3 1 4. 5! x3: 1 4 5. 1 is there.
        self.counts(3, 3, [1, 2, 3, 1, 4, 5, 1], 5)

    def test_all_are_marked(self):
        # 1* 2*. 3!: 2* 1, 1 2, x1: 2 3. 2 is there: 2* 3. 1!: 3 2, x3: 2 1. 2 is there.
        self.counts(3, 2, [1, 2, 1, 2, 3, 2, 1, 2], 4)

    def test_a_key_comes_without_a_mark(self):
        # 1 2*. 3! x1: 2* 3. 4!: 3 2, x3: 2 4. 2 is there.
        self.counts(3, 2, [1, 2, 2, 3, 4, 2], 4)

    def test_a_mark_is_one_however_often_a_key_is_used(self):
        # 1* 2. 3!: 2 1, x2: 1 3. 4! x1: 3 4. 1!.
        self.counts(3, 2, [1, 1, 1, 1, 2, 3, 4, 1], 5)

    def test_a_mark_stays_while_its_key_is_not_first(self):
        # 1 2 3*. 4! x1: 2 3* 4. 5! x2: 3* 4 5. 6!: 4 5 3, x4: 5 3 6. 3 is there.
        self.counts(3, 3, [1, 2, 3, 3, 4, 5, 6, 3], 6)


class RuleFour(Counting):
    def test_room_1_has_no_safe_ones(self):
        # 1, used: safe, too many, back. 2! x1. 1! x2.
        self.counts(4, 1, [1, 1, 2, 1], 3)

    def test_room_2_has_one_safe(self):
        # 1!, used: | 1. 2!: 2 | 1. 3! x2: 3 | 1. 1 is there.
        self.counts(4, 2, [1, 1, 2, 3, 1], 3)
        # 1 2, 1 used: 2 | 1. 2 used: | 1 2, one too many: 1 | 2. 3! x1: 3 | 2. 1! x3: 1 | 2. 2 is there.
        self.counts(4, 2, [1, 2, 1, 2, 3, 1, 2], 4)

    def test_room_3_has_one_safe(self):
        # 1 2 3, 1 used: 2 3 | 1. 2 used: 3 1 | 2. 4! x3: 1 4 | 2. 5! x1: 4 5 | 2. 2 is there. 1!.
        self.counts(4, 3, [1, 2, 3, 1, 2, 4, 5, 2, 1], 6)

    def test_room_4_has_two_safe(self):
        # 1 2 3 4, 1 and 2 used: 3 4 | 1 2. 5! x3, 6! x4, 7! x5: 6 7 | 1 2. 1 and 2 are there.
        self.counts(4, 4, [1, 2, 3, 4, 1, 2, 5, 6, 7, 1, 2], 7)
        # 3 4 | 1 2, 3 used: 4 1 | 2 3. 5! x4: 1 5 | 2 3. 6! x1: 5 6 | 2 3. 1!.
        self.counts(4, 4, [1, 2, 3, 4, 1, 2, 3, 5, 6, 1], 7)

    def test_room_5_has_two_safe(self):
        # 3 4 5 | 1 2. 6! x3, 7! x4, 8! x5, 9! x6: 7 8 9 | 1 2. 1 is there.
        self.counts(4, 5, [1, 2, 3, 4, 5, 1, 2, 6, 7, 8, 9, 1], 9)
        # 3 4 5 | 1 2, 3 used: 4 5 1 | 2 3. 6! x4, 7! x5, 8! x1: 6 7 8 | 2 3. 1!.
        self.counts(4, 5, [1, 2, 3, 4, 5, 1, 2, 3, 6, 7, 8, 1], 9)

    def test_one_too_many_goes_back_to_the_end(self):
        # 3 4 | 1 2, 3 used: 4 1 | 2 3. 5! x4: 1 5 | 2 3. 1 is there.
        self.counts(4, 4, [1, 2, 3, 4, 1, 2, 3, 5, 1], 5)

    def test_a_safe_key_goes_to_the_end_of_the_safe_ones(self):
        # 3 4 | 1 2, 1 used: 3 4 | 2 1. 3 used: 4 2 | 1 3. 5! x4, 6! x2: 5 6 | 1 3.
        row = [1, 2, 3, 4, 1, 2, 1, 3, 5, 6]
        self.counts(4, 4, row + [1], 6)
        self.counts(4, 4, row + [2], 7)

    def test_the_first_of_the_other_line_leaves(self):
        # 1 2 3 4, 1 used: 2 3 4 | 1. 5! x2: 3 4 5 | 1. 1, 3 and 4 are there.
        row = [1, 2, 3, 4, 1, 5]
        self.counts(4, 4, row + [1, 3, 4], 5)
        self.counts(4, 4, row + [2], 6)

    def test_both_lines_together_have_the_room(self):
        # 2 3 4 | 1 is all: 5! x2, 6! x3. 4 and 1 are there.
        self.counts(4, 4, [1, 2, 3, 4, 1, 5, 6, 4, 1], 6)
        # | 1, and one more comes without anyone leaving: 2 | 1.
        self.counts(4, 2, [1, 1, 2, 1, 2], 2)

    def test_a_key_that_was_given_back_can_be_safe_again(self):
        # 1 | 2 as in room 2. 1 used: 2 | 1. 3! x2: 3 | 1. 1 is there.
        self.counts(4, 2, [1, 2, 1, 2, 1, 3, 1], 3)


class Edges(Counting):
    def test_no_keys_no_misses(self):
        for rule in RULES:
            for room in (1, 2, 1024):
                self.counts(rule, room, [], 0)

    def test_room_1(self):
        # What comes sends the one before it away, marked, counted or not.
        for rule in RULES:
            self.counts(rule, 1, [5], 1)
            self.counts(rule, 1, [5, 5, 5, 6, 5, 6, 6, 5], 5)

    def test_room_1024_is_enough_for_1024_keys(self):
        for rule in RULES:
            self.counts(rule, 1024, list(range(1024)) * 2, 1024)

    def test_room_1024_is_too_little_for_1025_keys(self):
        # Each key leaves just ahead of its own second use.
        for rule in RULES:
            self.counts(rule, 1024, list(range(1025)) * 2, 2050)
            self.counts(rule, 1023, list(range(1024)) * 2, 2048)

    def test_rule_4_has_512_safe_ones_of_1024(self):
        # 0 to 512 are used again, one too many: 513 .. 1023 0 | 1 .. 512.
        row = list(range(1024)) + list(range(513))
        self.counts(4, 1024, row + list(range(2000, 2511)) + [0], 1024 + 511)
        self.counts(4, 1024, row + list(range(2000, 2512)) + [0], 1024 + 512 + 1)

    def test_the_least_and_the_greatest_key(self):
        for rule in RULES:
            self.counts(rule, 2, [0, TOP_KEY, 0, TOP_KEY], 2)
            self.counts(rule, 1, [0, TOP_KEY, 0, TOP_KEY], 4)
            self.counts(rule, 1, [0, 0, TOP_KEY, TOP_KEY], 2)

    def test_great_keys_that_are_near_each_other_are_not_the_same(self):
        for rule in RULES:
            self.counts(rule, 4, [TOP_KEY, TOP_KEY - 1, 9223372036854775808, 9223372036854775807], 4)

    def test_8192_keys(self):
        for rule in RULES:
            for room in (1, 1024):
                self.counts(rule, room, list(range(8192)), 8192)
                self.counts(rule, room, [7] * 8192, 1)
            self.counts(rule, 1, [3, 4] * 4096, 8192)
            self.counts(rule, 1024, list(range(1024)) * 8, 1024)

    def test_8192_keys_where_most_have_been_used_twice(self):
        # By rule 2 each of the others leaves for the next; by rules 0, 1 and 3 they drive 0 away
        # (by rule 3 all marks are lost as soon as one has to leave).
        row = list(range(1023)) * 2 + list(range(2000, 8146))
        for rule in RULES:
            self.counts(rule, 1024, row, 1023 + 6146)
        self.counts(2, 1024, row[:8191] + [0], 1023 + 6145)
        for rule in (0, 1, 3):
            self.counts(rule, 1024, row[:8191] + [0], 1023 + 6146)
        # By rule 4 the last 512 of them are safe: 511 to 1022.
        self.counts(4, 1024, row[:8191] + [511], 1023 + 6145)
        self.counts(4, 1024, row[:8191] + [510], 1023 + 6146)


class Refused(unittest.TestCase):
    wrong_rules = (-1, 5, -2147483648, 2147483647)
    wrong_rooms = (0, 1025, -1, -2147483648, 2147483647)
    rows = ([], [1], [1, 2, 1, 3], [0, TOP_KEY])

    def refuses(self, rule, room):
        for row in self.rows:
            self.assertEqual(misses(rule, room, list(row)), [-2], (rule, room, row))

    def test_no_such_rule(self):
        for rule in self.wrong_rules:
            for room in (1, 2, 3, 1024):
                self.refuses(rule, room)

    def test_no_such_room(self):
        for rule in RULES:
            for room in self.wrong_rooms:
                self.refuses(rule, room)

    def test_neither_such_a_rule_nor_such_a_room(self):
        for rule in self.wrong_rules:
            for room in self.wrong_rooms:
                self.refuses(rule, room)

    def test_a_refusal_leaves_the_list_as_it_was(self):
        keys = [3, 1, 3]
        misses(5, 1025, keys)
        self.assertEqual(keys, [3, 1, 3])

    def test_the_outermost_that_are_not_refused(self):
        for rule in (0, 4):
            for room in (1, 1024):
                self.assertEqual(misses(rule, room, [9]), [1])


if __name__ == "__main__":
    unittest.main()
