"""drop and holds: rows worked out by hand from the document's rules.

In the remarks a line reads first to last; `x1` says that 1 leaves, `*` is a mark,
`1:2` is key 1 with two uses, and `| 2` are the safe ones.
"""

import unittest

from telling import (
    RULES, TOP_KEY, Telling, begun, came, dropped, held, not_held, nothing_dropped, sent, stands, there,
)


class Drop(Telling):
    def test_1_where_the_key_was_there_and_then_it_is_not(self):
        for rule in RULES:
            self.tells(begun(rule, 3), came(1, 2, 3), dropped(2), not_held(2), held(1, 3), nothing_dropped(2))
            self.tells(begun(rule, 3), came(1, 2, 3), dropped(1, 2, 3), stands(), not_held(1, 2, 3))

    def test_0_for_a_key_that_was_never_there(self):
        for rule in RULES:
            self.tells(begun(rule, 3), nothing_dropped(0, 1, 3, TOP_KEY), stands())
            self.tells(begun(rule, 3), came(1, 2, 3), nothing_dropped(0, 4, TOP_KEY), stands(1, 2, 3), held(1, 2, 3))

    def test_0_for_a_key_that_has_left(self):
        for rule in RULES:
            self.tells(begun(rule, 2), came(1, 2), sent(3, 1), nothing_dropped(1), stands(2, 3), sent(4, 2))

    def test_0_changes_nothing(self):
        # No room is made: the next that comes sends one away.
        for rule in RULES:
            self.tells(begun(rule, 2), came(1, 2), nothing_dropped(3), sent(4, 1), nothing_dropped(1), sent(5, 2))

    def test_there_is_room_for_one_more_after_it(self):
        for rule in RULES:
            for gone, left in ((1, 2), (2, 1)):
                self.tells(begun(rule, 2), came(1, 2), dropped(gone), came(3), stands(left, 3), sent(4, left))

    def test_there_is_room_for_as_many_as_were_dropped(self):
        for rule in RULES:
            self.tells(begun(rule, 4), came(1, 2, 3, 4), dropped(4, 1, 2), came(5, 6, 7), sent(8, 3), sent(9, 5))

    def test_in_room_1(self):
        for rule in RULES:
            self.tells(begun(rule, 1), came(1), dropped(1), stands(), came(2), sent(1, 2), dropped(1), came(1))
            self.tells(begun(rule, 1), came(1), there(1), dropped(1), not_held(1), came(2), sent(3, 2))

    def test_a_dropped_key_comes_again_at_the_end(self):
        for rule in RULES:
            self.tells(begun(rule, 3), came(1, 2, 3), dropped(1), came(1), stands(2, 3, 1), sent(4, 2), sent(5, 3))

    def test_no_other_moves(self):
        for rule in RULES:
            for gone, left in ((1, (2, 3, 4)), (2, (1, 3, 4)), (3, (1, 2, 4)), (4, (1, 2, 3))):
                self.tells(begun(rule, 4), came(1, 2, 3, 4), dropped(gone), stands(*left), came(5), sent(6, left[0]))

    def test_the_least_and_the_greatest_key(self):
        for rule in RULES:
            self.tells(begun(rule, 2), came(0, TOP_KEY), dropped(0), not_held(0), held(TOP_KEY), dropped(TOP_KEY))
            self.tells(begun(rule, 2), came(TOP_KEY), nothing_dropped(TOP_KEY - 1, 0), dropped(TOP_KEY))


class DropByRule(Telling):
    def test_rule_0(self):
        # 1 2 3 4, 1 is there. Without 2: 1 3 4. 5 comes, 6 x1, 7 x3.
        self.tells(begun(0, 4), came(1, 2, 3, 4), there(1), dropped(2), came(5), sent(6, 1), sent(7, 3))

    def test_rule_1(self):
        # 2 3 4 1. Without 3: 2 4 1. 5 comes, 6 x2, 7 x4, 8 x1.
        self.tells(
            begun(1, 4), came(1, 2, 3, 4), there(1), dropped(3), stands(2, 4, 1),
            came(5), sent(6, 2), sent(7, 4), sent(8, 1),
        )

    def test_rule_2_the_others_keep_their_uses(self):
        # 2:1 3:2 1:3. Without 2: 3:2 1:3. 4:1, 5 x4. 5 twice more: 3:2 1:3 5:3. 6 x3.
        self.tells(
            begun(2, 3), came(1), there(1, 1), came(2, 3), there(3), dropped(2), stands(3, 1),
            came(4), sent(5, 4), there(5, 5), sent(6, 3), there(6, 6), sent(7, 1),
        )

    def test_rule_2_the_others_keep_their_last_use(self):
        # 1, 2 and 3 have two uses, last used 3 1 2. Without 1: 3 2.
        self.tells(
            begun(2, 3), came(1, 2, 3), there(3, 1, 2), dropped(1), stands(3, 2),
            came(4), there(4), sent(5, 3), there(5), sent(6, 2),
        )

    def test_rule_2_a_dropped_key_that_comes_again_is_counted_anew(self):
        # 1:4 2:2. 1 comes again: 1:1 2:2. 3 x1.
        self.tells(
            begun(2, 2), came(1), there(1, 1, 1), came(2), there(2), dropped(1), came(1), stands(1, 2), sent(3, 1),
        )
        # 1:1, then one use more: 2:2 1:2. 3 x2.
        self.tells(begun(2, 2), came(1), there(1, 1), came(2), there(2), dropped(1), came(1), there(1), sent(3, 2))

    def test_rule_3_the_others_keep_their_marks(self):
        # 1* 2 3* 4. Without 2: 1* 3* 4. 5 comes: 1* 3* 4 5. 6: 4 5 1 3, x4: 5 1 3 6. 7 x5.
        self.tells(
            begun(3, 4), came(1, 2, 3, 4), there(1, 3), dropped(2), stands(1, 3, 4),
            came(5), sent(6, 4), stands(5, 1, 3, 6), sent(7, 5),
        )

    def test_rule_3_a_marked_key_is_dropped_like_any_other(self):
        # 1* 2* 3. Without 1: 2* 3. 4 comes: 2* 3 4. 5: 3 4 2, x3.
        self.tells(
            begun(3, 3), came(1, 2, 3), there(1, 2), dropped(1), stands(2, 3), came(4), sent(5, 3), stands(4, 2, 5),
        )

    def test_rule_3_it_comes_again_without_a_mark(self):
        # 1* 2. 1 comes again: 2 1. 3 x2: 1 3. 4 x1.
        self.tells(begun(3, 2), came(1), there(1), came(2), dropped(1), came(1), stands(2, 1), sent(3, 2), sent(4, 1))
        # Alone in the line: 1, then 2 comes, 3 x1.
        self.tells(begun(3, 2), came(1), there(1), dropped(1), came(1, 2), sent(3, 1))

    def test_rule_4_a_key_of_the_line_is_dropped(self):
        # 2 3 4 | 1. Without 3: 2 4 | 1. 5 comes: 2 4 5 | 1. 6 x2, 7 x4.
        self.tells(
            begun(4, 4), came(1, 2, 3, 4), there(1), dropped(3), stands(2, 4, 1),
            came(5), sent(6, 2), sent(7, 4), stands(5, 6, 7, 1),
        )

    def test_rule_4_no_other_becomes_safe_or_comes_back(self):
        # 3 4 | 1 2. Without 1: 3 4 | 2. 5 comes: 3 4 5 | 2. 6 x3, 7 x4, 8 x5: 6 7 8 | 2.
        self.tells(
            begun(4, 4), came(1, 2, 3, 4), there(1, 2), dropped(1), stands(3, 4, 2),
            came(5), sent(6, 3), sent(7, 4), sent(8, 5), stands(6, 7, 8, 2),
        )

    def test_rule_4_a_dropped_safe_key_makes_room_among_the_safe_ones(self):
        # 3 4 | 1 2. Without 1: 3 4 | 2. 3: 4 | 2 3, none is given back. 4: 2 | 3 4.
        self.tells(
            begun(4, 4), came(1, 2, 3, 4), there(1, 2), dropped(1), there(3), stands(4, 2, 3),
            came(5), sent(6, 4), stands(5, 6, 2, 3),
        )
        # And only for one: 5 | 3 4 and so 2 stands in the line.
        self.tells(
            begun(4, 4), came(1, 2, 3, 4), there(1, 2), dropped(1), there(3, 4), stands(2, 3, 4),
            came(5), sent(6, 2), stands(5, 6, 3, 4),
        )

    def test_rule_4_a_dropped_key_of_the_line_makes_none_among_the_safe_ones(self):
        # 3 4 | 1 2. Without 3: 4 | 1 2. 4: 1 | 2 4.
        self.tells(
            begun(4, 4), came(1, 2, 3, 4), there(1, 2), dropped(3), there(4), stands(1, 2, 4), came(5), sent(6, 1),
        )

    def test_rule_4_a_dropped_safe_key_comes_again_into_the_line(self):
        # 2 | 1. 1 comes again: 2 1. 3 x2, 4 x1.
        self.tells(begun(4, 2), came(1, 2), there(1), dropped(1), came(1), stands(2, 1), sent(3, 2), sent(4, 1))
        # 3 4 | 1 2. 1 comes again: 3 4 1 | 2.
        self.tells(
            begun(4, 4), came(1, 2, 3, 4), there(1, 2), dropped(1), came(1), stands(3, 4, 1, 2),
            sent(5, 3), sent(6, 4), sent(7, 1), stands(5, 6, 7, 2),
        )

    def test_rule_4_all_of_the_line_are_dropped(self):
        # | 1 2. 3 and 4 come: 3 4 | 1 2. 5 x3.
        self.tells(
            begun(4, 4), came(1, 2, 3, 4), there(1, 2), dropped(3, 4), stands(1, 2),
            came(3, 4), stands(3, 4, 1, 2), sent(5, 3),
        )


class Holds(Telling):
    def test_1_where_the_key_is_there_else_0(self):
        for rule in RULES:
            self.tells(begun(rule, 2), not_held(1), came(1), held(1), not_held(2), came(2), held(1, 2), sent(3, 1),
                       not_held(1), held(2, 3), dropped(2), not_held(1, 2), held(3))

    def test_a_key_that_was_never_there(self):
        for rule in RULES:
            self.tells(begun(rule, 2), not_held(0, TOP_KEY), came(0), not_held(1, TOP_KEY), held(0))

    def test_a_marked_key_and_a_safe_one_are_there(self):
        for rule in RULES:
            self.tells(begun(rule, 2), came(1, 2), there(1), held(1, 2), not_held(3))

    def test_it_does_not_let_the_key_come(self):
        for rule in RULES:
            self.tells(begun(rule, 2), not_held(7, 7), stands(), came(7))

    def test_rules_0_and_1_it_moves_nothing(self):
        for rule in (0, 1):
            self.tells(begun(rule, 2), came(1, 2), held(1, 1), stands(1, 2), sent(3, 1), held(2), sent(4, 2))

    def test_rule_2_it_counts_nothing(self):
        # 1:1 2:2, however often it's asked for 1.
        self.tells(begun(2, 2), came(1, 2), there(2), held(1, 1, 1, 1), stands(1, 2), sent(3, 1))
        # Nor is it a last use: 1:1 2:1.
        self.tells(begun(2, 2), came(1, 2), held(1), stands(1, 2), sent(3, 1))

    def test_rule_3_it_marks_nothing(self):
        self.tells(begun(3, 2), came(1, 2), held(1, 1), sent(3, 1))
        # 1* 2. It takes no mark either.
        self.tells(begun(3, 2), came(1, 2), there(1), held(1, 2), sent(3, 2))

    def test_rule_4_it_makes_nothing_safe(self):
        self.tells(begun(4, 2), came(1, 2), held(1, 1), stands(1, 2), sent(3, 1))
        # 3 4 | 1 2: 1 stays the first of the safe ones. 3: 4 1 | 2 3.
        self.tells(
            begun(4, 4), came(1, 2, 3, 4), there(1, 2), held(1), stands(3, 4, 1, 2), there(3), stands(4, 1, 2, 3),
        )


if __name__ == "__main__":
    unittest.main()
