"""answers: how the calls stand in the list, what is given back, and what is left as it was."""

import unittest

from cacherules.misses import curve, misses
from telling import (
    RULES, TOP_KEY, Telling, answers, begun, call_by_call, calls_of, came, dropped, given_for, held, not_held,
    nothing_dropped, refused, sent, stands, there,
)
from test_given_back import Unchanging

# By rule 0: 7 and 8 come, 9 comes for 7, 8 is dropped.
CALLS = (1, 0, 2, 5, 2, 7, 2, 8, 2, 7, 2, 9, 4, 7, 4, 9, 5, 3, 8, 3, 8, 1, 5, 2, 5, 1, 2, 1, 5)
GIVEN = (1, 0, 1, 0, 1, 0, 1, 0, 1, 1, 2, 2, 7, 1, 0, 1, 1, 3, 2, 8, 9, 1, 1, 1, 0, 1, -2, 2, 1, 9, 1, 0, 1, 0)


def mixed(rule):
    """A row with all calls in it, by a rule; its answers are not told here."""
    row = [1, rule, 3]
    for key in (1, 2, 1, 3, 4, 2, 2, 3, 4, 3, 0, TOP_KEY, 1, 4, 1, 2):
        row += [2, key, 4, key, 5, 3, key + 1 if key < TOP_KEY else 0, 5]
    return row + [1, rule, 0, 5, 1, rule, 1, 5, 2, 9, 2, 8, 5]


class OneFlatList(Telling):
    def test_every_call_in_a_row(self):
        self.assertEqual(answers(list(CALLS)), list(GIVEN))

    def test_the_numbers_of_the_calls(self):
        self.assertEqual(answers([1, 0, 1]), [1, 0])
        self.assertEqual(answers([1, 0, 1, 2, 6]), [1, 0, 1, 0])
        self.assertEqual(answers([1, 0, 1, 3, 6]), [1, 0, 1, 0])
        self.assertEqual(answers([1, 0, 1, 4, 6]), [1, 0, 1, 0])
        self.assertEqual(answers([1, 0, 1, 5]), [1, 0, 1, 0])
        self.assertEqual(answers([1, 0, 1, 2, 6, 2, 6]), [1, 0, 1, 0, 1, 1])
        self.assertEqual(answers([1, 0, 1, 2, 6, 3, 6]), [1, 0, 1, 0, 1, 1])
        self.assertEqual(answers([1, 0, 1, 2, 6, 4, 6]), [1, 0, 1, 0, 1, 1])
        self.assertEqual(answers([1, 0, 1, 2, 6, 5]), [1, 0, 1, 0, 2, 1, 6])
        self.assertEqual(answers([1, 0, 1, 2, 6, 2, 7]), [1, 0, 1, 0, 2, 2, 6])
        self.assertEqual(answers([1, 0, 1, 2, 6, 1, 0, 1]), [1, 0, 1, 0, 1, 0])
        self.assertEqual(answers([1, 0, 1, 2, 6, 1, 5, 1]), [1, 0, 1, 0, 1, -2])

    def test_keys_that_look_like_calls(self):
        # Each number is read in its place.
        for rule in RULES:
            self.tells(begun(rule, 5), came(1, 2, 3, 4, 5), held(5, 1), stands(1, 2, 3, 4, 5), dropped(5, 2), came(5))

    def test_rule_and_room_that_look_like_calls(self):
        self.tells(begun(1, 2), came(2, 5), there(2), sent(1, 5), begun(3, 4), stands(), begun(4, 5), came(1))

    def test_a_list_of_whole_numbers(self):
        for row in (list(CALLS), [1, 0, 1]) + tuple(mixed(rule) for rule in RULES):
            given = answers(row)
            self.assertIs(type(given), list)
            for number in given:
                self.assertIs(type(number), int)

    def test_as_many_answers_as_calls(self):
        for rule in RULES:
            self.assertEqual(len(call_by_call(answers(mixed(rule)))), 1 + 16 * 5 + 7)


class GreatKeys(Telling):
    def test_they_are_told_apart(self):
        keys = (
            TOP_KEY, TOP_KEY - 1, TOP_KEY - 2, TOP_KEY - 1024, 9223372036854775808, 9223372036854775807, 0, 4294967296,
        )
        for rule in RULES:
            self.tells(begun(rule, 8), came(*keys), stands(*keys), sent(1, TOP_KEY), not_held(TOP_KEY), held(*keys[1:]))
            for key in keys:
                left = [other for other in keys if other != key]
                self.tells(begun(rule, 8), came(*keys), dropped(key), nothing_dropped(key), stands(*left), held(*left))

    def test_the_least_and_the_greatest_among_others(self):
        # By rule 2: 0:1 1:1 top:2. By rule 4: 0 1 | top.
        lines = {
            0: (0, TOP_KEY, 1), 1: (0, TOP_KEY, 1), 2: (0, 1, TOP_KEY), 3: (0, TOP_KEY, 1), 4: (0, 1, TOP_KEY),
        }
        for rule, line in lines.items():
            self.tells(begun(rule, 3), came(0, TOP_KEY), there(TOP_KEY), came(1), stands(*line), sent(TOP_KEY - 1, 0))


class FourHundredCalls(Telling):
    def whole(self, *parts):
        pairs = [pair for part in parts for pair in part]
        self.assertEqual(len(pairs), 400)
        self.tells(pairs)

    def test_keys_that_come_and_stay(self):
        for rule in RULES:
            self.whole(begun(rule, 1024), came(*range(399)))
            keys = range(TOP_KEY, TOP_KEY - 398, -1)
            self.whole(begun(rule, 399), came(*keys), stands(*keys))

    def test_keys_that_come_and_leave(self):
        for rule in RULES:
            sends = [pair for key in range(200, 398) for pair in sent(key, key - 200)]
            self.whole(begun(rule, 200), came(*range(200)), sends, stands(*range(198, 398)))

    def test_one_key_over_and_over(self):
        for rule in RULES:
            self.whole(begun(rule, 1), came(7), there(*[7] * 398))
            self.whole(begun(rule, 1), (came(7) + dropped(7)) * 199 + stands())
            self.whole(begun(rule, 1), not_held(*[7] * 399))

    def test_order_alone(self):
        for rule in RULES:
            self.whole(begun(rule, 3), stands() * 399)
            self.whole(begun(rule, 300), came(*range(150)), stands(*range(150)) * 249)

    def test_begin_alone(self):
        for rule in RULES:
            self.whole(begun(rule, 3), (refused(rule, 0) + begun(rule, 1024)) * 199 + refused(5, 1))


class LeftAsItWas(Telling):
    def test_the_list_handed_in(self):
        for row in [list(CALLS)] + [mixed(rule) for rule in RULES]:
            handed_in = list(row)
            given = answers(handed_in)
            self.assertIsNot(given, handed_in)
            self.assertEqual(handed_in, row)

    def test_not_changed_for_a_while_either(self):
        for row in [list(CALLS)] + [mixed(rule) for rule in RULES]:
            self.assertEqual(answers(Unchanging(row)), answers(row))

    def test_nothing_is_kept_from_one_time_to_the_next(self):
        for rule in RULES:
            row = mixed(rule)
            first = answers(row)
            for later in RULES:
                answers([1, later, 2, 2, 1, 2, 1, 2, 2])
                self.assertEqual(answers(row), first)
            answers([1, 0, 3, 1, -1, 0])
            self.assertEqual(answers(list(row)), first)
            self.assertEqual(answers([1, rule, 3, 5, 4, 1, 2, 1]), [1, 0, 1, 0, 1, 0, 1, 0])

    def test_an_answer_that_is_changed_changes_no_later_one(self):
        first = answers(list(CALLS))
        first.append(5)
        first[0] = 5
        self.assertEqual(answers(list(CALLS)), list(GIVEN))
        refusal = answers([1, 0, 1, 1, 5, 1])
        refusal[3] = 0
        self.assertEqual(answers([1, 0, 1, 1, 5, 1]), [1, 0, 1, -2])


class MissesAndCurveTouchNoCache(Telling):
    def test_nor_does_a_cache_touch_them(self):
        row = [1, 2, 1, 3, 4, 2, 2, 3, 4, 3]
        for rule in RULES:
            calls = mixed(rule)
            first = answers(calls)
            missed = misses(rule, 3, row)
            curved = curve(5, row)
            self.assertEqual(answers(calls), first)
            self.assertEqual(misses(rule, 3, row), missed)
            self.assertEqual(curve(5, row), curved)
            pairs = begun(rule, 2) + came(1, 2) + there(1)
            self.assertEqual(answers(calls_of(pairs)), given_for(pairs))


if __name__ == "__main__":
    unittest.main()
