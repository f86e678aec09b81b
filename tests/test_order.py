"""order: the keys as they stand, by each rule.

In the remarks a line reads first to last; `x1` says that 1 leaves, `*` is a mark,
`1:2` is key 1 with two uses, and `| 2` are the safe ones.
"""

import unittest

from telling import (
    RULES, TOP_KEY, Telling, answers, begun, call_by_call, came, dropped, nothing_dropped, refused, sent, stands, there,
)


class Order(Telling):
    def test_where_no_key_is_there(self):
        for rule in RULES:
            self.assertEqual(answers([1, rule, 3, 5]), [1, 0, 1, 0])
            self.tells(begun(rule, 3), stands(), came(1), dropped(1), stands(), nothing_dropped(1), stands())
            self.tells(begun(rule, 3), came(1, 2), begun(rule, 3), stands())

    def test_one_key(self):
        for rule in RULES:
            for key in (0, 1, TOP_KEY):
                self.assertEqual(answers([1, rule, 3, 2, key, 5]), [1, 0, 1, 0, 2, 1, key])
                self.tells(begun(rule, 3), came(key), stands(key), there(key), stands(key))

    def test_how_many_then_they(self):
        for rule in RULES:
            self.assertEqual(answers([1, rule, 3, 2, 9, 2, 4, 2, 7, 5]), [1, 0, 1, 0, 1, 0, 1, 0, 4, 3, 9, 4, 7])

    def test_it_counts_the_keys_that_are_there_not_the_room(self):
        for rule in RULES:
            self.tells(begun(rule, 1024), came(5, 4, 6), stands(5, 4, 6), dropped(4), stands(5, 6))

    def test_it_changes_nothing(self):
        # The same row with and without it: no count, no mark, no move.
        rows = {
            0: (came(1, 2, 3), there(1), sent(4, 1), sent(5, 2), sent(6, 3)),
            1: (came(1, 2, 3), there(1), sent(4, 2), sent(5, 3), sent(6, 1)),
            2: (came(1, 2, 3), there(1, 2, 1), sent(4, 3), sent(5, 4), there(5, 5), sent(6, 2)),
            3: (came(1, 2, 3), there(1), sent(4, 2), sent(5, 3), sent(6, 1)),
            4: (came(1, 2, 3), there(1), sent(4, 2), there(4), sent(5, 3), sent(6, 1)),
        }
        for rule, row in rows.items():
            pairs = begun(rule, 3) + [pair for part in row for pair in part]
            self.tells(pairs)
            told = call_by_call(answers([number for call, _ in pairs for number in call + [5, 5]]))
            self.assertEqual(told[0::3], [answer for _, answer in pairs])
            self.assertEqual(told[1::3], told[2::3])

    def test_keys_are_told_by_the_line_not_by_their_size(self):
        for rule in RULES:
            keys = (TOP_KEY, 3, 0, 2)
            self.tells(begun(rule, 4), came(*keys), stands(*keys), sent(1, TOP_KEY), stands(3, 0, 2, 1))


class RulesZeroAndOne(Telling):
    def test_rule_0_the_line_as_they_came(self):
        self.tells(begun(0, 3), came(3, 1, 2), there(3, 1, 3), stands(3, 1, 2), sent(4, 3), there(1), stands(1, 2, 4))

    def test_rule_1_the_line_by_last_use(self):
        self.tells(begun(1, 3), came(3, 1, 2), stands(3, 1, 2), there(3), stands(1, 2, 3), there(2, 2), stands(1, 3, 2),
                   sent(4, 1), stands(3, 2, 4), there(4), stands(3, 2, 4), there(3), stands(2, 4, 3))


class RuleTwo(Telling):
    def test_fewest_uses_first(self):
        # 1:3 2:1 3:2.
        self.tells(begun(2, 3), came(1, 2, 3), there(1, 1, 3), stands(2, 3, 1))
        # The same uses, told the other way round.
        self.tells(begun(2, 3), came(3), there(3), came(1), there(1, 1), came(2), stands(2, 3, 1))

    def test_of_several_the_one_whose_last_use_is_longest_ago(self):
        self.tells(begun(2, 3), came(1, 2, 3), stands(1, 2, 3), there(3, 1, 2), stands(3, 1, 2))
        # 4:1 3:1 2:2 1:2.
        self.tells(begun(2, 4), came(1, 2, 4, 3), there(2, 1), stands(4, 3, 2, 1))
        # 4 is dropped and comes again: its last use is later than that of 3, then.
        self.tells(begun(2, 4), came(1, 2, 4, 3), there(2, 1), dropped(4), came(4), stands(3, 4, 2, 1))

    def test_a_key_moves_behind_those_with_as_many_uses(self):
        # 1:1 2:1 3:2 4:2. 1 is used: 2:1 3:2 4:2 1:2. 3 is used: 2:1 4:2 1:2 3:3.
        self.tells(
            begun(2, 4), came(1, 2, 3, 4), there(3, 4), stands(1, 2, 3, 4), there(1), stands(2, 3, 4, 1),
            there(3), stands(2, 4, 1, 3), there(2, 2, 2), stands(4, 1, 3, 2),
        )

    def test_a_key_that_comes_stands_behind_those_with_one_use(self):
        # 1:1 2:2, then 3: 1:1 3:1 2:2.
        self.tells(begun(2, 3), came(1, 2), there(2), came(3), stands(1, 3, 2), sent(4, 1), stands(3, 4, 2))

    def test_what_would_leave_first_stands_first(self):
        # 1:4 2:3 3:2 4:1 5:2: 4 3 5 2 1. Each that comes is used until it's no longer among the first.
        self.tells(
            begun(2, 5), came(1, 2, 3, 4, 5), there(1, 1, 1, 2, 2, 3, 5), stands(4, 3, 5, 2, 1),
            sent(6, 4), there(6, 6, 6, 6), stands(3, 5, 2, 1, 6),
            sent(7, 3), there(7, 7, 7, 7), stands(5, 2, 1, 6, 7),
            sent(8, 5), there(8, 8, 8, 8), stands(2, 1, 6, 7, 8),
            sent(9, 2), there(9, 9, 9, 9), sent(10, 1),
        )


class RuleThree(Telling):
    def test_the_line_as_it_stands_with_marked_keys_in_it(self):
        self.tells(begun(3, 4), came(4, 1, 3, 2), there(3, 4), stands(4, 1, 3, 2), there(2, 2), stands(4, 1, 3, 2))

    def test_after_marks_were_lost_at_the_front(self):
        # 1* 2* 3 4. 5: 3 4 1 2, x3: 4 1 2 5.
        self.tells(begun(3, 4), came(1, 2, 3, 4), there(2, 1), sent(5, 3), stands(4, 1, 2, 5))
        # 1* 2 3*. 4: 2 3* 1, x2: 3* 1 4. 5: 1 4 3, x1: 4 3 5.
        self.tells(begun(3, 3), came(1, 2, 3), there(1, 3), sent(4, 2), stands(3, 1, 4), sent(5, 1), stands(4, 3, 5))

    def test_all_were_marked(self):
        # 1* 2* 3*. 4: 1 2 3, x1.
        self.tells(begun(3, 3), came(1, 2, 3), there(3, 2, 1), stands(1, 2, 3), sent(4, 1), stands(2, 3, 4))

    def test_it_takes_no_mark(self):
        # 1* 2.
        self.tells(begun(3, 2), came(1, 2), there(1), stands(1, 2), stands(1, 2), sent(3, 2))


class RuleFour(Telling):
    def test_the_line_then_the_safe_ones(self):
        # 2 4 | 3 1.
        self.tells(begun(4, 4), came(1, 2, 3, 4), there(3, 1), stands(2, 4, 3, 1))

    def test_the_line_alone_and_the_safe_ones_alone(self):
        self.tells(begun(4, 4), came(2, 1), stands(2, 1), there(2, 1), stands(2, 1), there(2), stands(1, 2))

    def test_one_that_was_given_back_ends_the_line(self):
        # 3 4 | 1 2. 3: 4 1 | 2 3. 5 x4: 1 5 | 2 3.
        self.tells(
            begun(4, 4), came(1, 2, 3, 4), there(1, 2, 3), stands(4, 1, 2, 3), sent(5, 4), stands(1, 5, 2, 3),
        )

    def test_one_that_comes_stands_ahead_of_the_safe_ones(self):
        self.tells(begun(4, 4), came(1), there(1), came(2), stands(2, 1), came(3), stands(2, 3, 1))

    def test_rooms_1_to_5(self):
        # 1, 2 and so on come, and are used again from the first to the last.
        for room in (1, 2, 3, 4, 5):
            line = range(1, room + 1)
            self.tells(begun(4, room), came(*line), there(*line), stands(*line))
        # And the first once more. In room 1 it's given back; in room 2, of 1 | 2: 2 | 1.
        self.tells(begun(4, 1), came(1), there(1, 1), stands(1))
        self.tells(begun(4, 2), came(1, 2), there(1, 2, 1), stands(2, 1))
        # 1 2 | 3, 1: 2 3 | 1.
        self.tells(begun(4, 3), came(1, 2, 3), there(1, 2, 3, 1), stands(2, 3, 1))
        # 1 2 | 3 4, 1: 2 3 | 4 1.
        self.tells(begun(4, 4), came(1, 2, 3, 4), there(1, 2, 3, 4, 1), stands(2, 3, 4, 1))
        # 1 2 3 | 4 5, 1: 2 3 4 | 5 1.
        self.tells(begun(4, 5), came(1, 2, 3, 4, 5), there(1, 2, 3, 4, 5, 1), stands(2, 3, 4, 5, 1))


class Refused(Telling):
    def test_order_is_as_it_was_behind_a_begin_that_is_refused(self):
        rows = {0: (1, 2, 3), 1: (2, 3, 1), 2: (2, 3, 1), 3: (1, 2, 3), 4: (2, 3, 1)}
        for rule, line in rows.items():
            self.tells(begun(rule, 3), came(1, 2, 3), there(1), stands(*line), refused(5, 3), stands(*line),
                       refused(rule, 0), stands(*line))


if __name__ == "__main__":
    unittest.main()
