"""curve: rows worked out by hand from the document's rule 1.

In the remarks a line reads first to last; 4! is a miss of key 4 and `x1` says that 1 leaves.
`5 at 3` says that this use of key 5 needs room 3: two other keys were used since its last use.
"""

import unittest

from cacherules.misses import curve

TOP_KEY = 18446744073709551615


class Answering(unittest.TestCase):
    def same(self, answer, expected):
        """Number by number: unittest takes very long to tell two long lists apart."""
        self.assertEqual(len(answer), len(expected))
        for room, number in enumerate(expected):
            self.assertEqual(answer[room], number, room)

    def answers(self, keys, expected):
        """Hold every shorter answer to the expected one too: less room is told the same."""
        for most in range(len(expected)):
            self.same(curve(most, list(keys)), expected[:most + 1])


class ByHand(Answering):
    def test_three_keys_of_which_one_comes_again(self):
        # Room 1: no key comes again at once. Room 2: 1! 2!, 1 is there: 2 1. 3! x2: 1 3. 1 is there.
        # Room 3 and more: 1! 2! 3!.
        self.answers([1, 2, 1, 3, 1], [0, 5, 3, 3, 3])

    def test_each_room_alone(self):
        # Room 1: 2 alone comes again at once.
        # Room 2: 1! 2!, 1 is there: 2 1. 3! x2: 1 3. 4! x1: 3 4. 2! x3: 4 2. 2 is there. 3! x4: 2 3.
        # 4! x2: 3 4. 3 is there.
        # Room 3: 1! 2!, 1 is there: 2 1. 3!: 2 1 3. 4! x2: 1 3 4. 2! x1: 3 4 2. All else is there.
        # Room 4 and more: 1! 2! 3! 4!.
        self.answers([1, 2, 1, 3, 4, 2, 2, 3, 4, 3], [0, 9, 7, 5, 4, 4])

    def test_again_at_once_soon_late_and_never(self):
        # 5!, 5 at 1, 6!, 7!, 5 at 3, 8!, 9!, 6 at 5, 9 at 2, 5 at 4. 7 and 8 never come again.
        self.answers([5, 5, 6, 7, 5, 8, 9, 6, 9, 5], [0, 9, 8, 7, 6, 5, 5, 5])

    def test_again_at_once(self):
        # 1!, 1 at 1, 2!, 2 at 1, 2 at 1, 3!.
        self.answers([1, 1, 2, 2, 2, 3], [0, 3, 3, 3, 3])

    def test_again_late_alone(self):
        # 1! 2! 3! 4! 5!, 1 at 5.
        self.answers([1, 2, 3, 4, 5, 1], [0, 6, 6, 6, 6, 5, 5])

    def test_a_key_used_more_than_once_in_between_takes_one_place(self):
        # 1! 2!, 2 at 1, 2 at 1, 1 at 2.
        self.answers([1, 2, 2, 2, 1], [0, 3, 2, 2])
        # 1! 2! 3!, 2 at 2, 3 at 2, 2 at 2, 1 at 3.
        self.answers([1, 2, 3, 2, 3, 2, 1], [0, 7, 4, 3, 3])

    def test_each_use_counts_from_the_last_one_not_from_the_first(self):
        # 1! 2! 3!, 1 at 3, 1 at 1, 4!, 1 at 2, 2 at 4.
        self.answers([1, 2, 3, 1, 1, 4, 1, 2], [0, 7, 6, 5, 4, 4])

    def test_a_key_that_had_left_goes_to_the_end_when_it_comes(self):
        # Room 2: 1! 2! 3! x1: 2 3. 1! x2: 3 1. 3 is there: 1 3. 1 is there.
        # 1 at 3, 3 at 2, 1 at 2.
        self.answers([1, 2, 3, 1, 3, 1], [0, 6, 4, 3, 3])

    def test_round_and_round(self):
        # Each comes again when two others were used: 1 at 3, 2 at 3, 3 at 3, and once more.
        self.answers([1, 2, 3] * 3, [0, 9, 9, 3, 3])

    def test_there_and_back(self):
        # 1! 2! 3! 4!, 3 at 2, 2 at 3, 1 at 4.
        self.answers([1, 2, 3, 4, 3, 2, 1], [0, 7, 6, 5, 4, 4])


class FewKeys(Answering):
    def test_no_keys_no_misses(self):
        self.answers([], [0, 0, 0, 0])
        self.same(curve(1024, []), [0] * 1025)

    def test_one_key(self):
        self.answers([5], [0, 1, 1, 1])
        self.same(curve(1024, [0]), [0] + [1] * 1024)

    def test_the_same_key_over_and_over(self):
        self.answers([5] * 7, [0, 1, 1, 1])

    def test_keys_all_different(self):
        self.answers([5, 3, 9, 1], [0, 4, 4, 4, 4, 4, 4])

    def test_the_least_and_the_greatest_key(self):
        self.answers([0, TOP_KEY, 0, TOP_KEY], [0, 4, 2, 2])
        self.answers([0, 0, TOP_KEY, TOP_KEY], [0, 2, 2, 2])
        self.answers([0], [0, 1, 1])
        self.answers([TOP_KEY], [0, 1, 1])

    def test_great_keys_that_are_near_each_other_are_not_the_same(self):
        self.answers([TOP_KEY, TOP_KEY - 1, 9223372036854775808, 9223372036854775807], [0, 4, 4, 4, 4, 4])
        self.answers([TOP_KEY, TOP_KEY - 1, TOP_KEY], [0, 3, 2, 2])


class Most(Answering):
    row = [1, 2, 1, 3, 4, 2, 2, 3, 4, 3]

    def test_most_0(self):
        for keys in ([], [1], [1, 1], self.row, list(range(8192)), [7] * 8192):
            self.assertEqual(curve(0, keys), [0])

    def test_most_1(self):
        # In room 1 a key is there when it's the one used just before.
        self.assertEqual(curve(1, []), [0, 0])
        self.assertEqual(curve(1, self.row), [0, 9])
        self.assertEqual(curve(1, [3, 4] * 4096), [0, 8192])
        self.assertEqual(curve(1, [3, 3, 4, 4] * 2048), [0, 4096])

    def test_from_as_much_room_as_different_keys_on_the_numbers_stay(self):
        for most in (5, 6, 100, 1023, 1024):
            self.same(curve(most, self.row), [0, 9, 7, 5, 4] + [4] * (most - 4))


class Longest(Answering):
    """8192 keys and most 1024."""

    def answers(self, keys, expected):
        self.assertEqual(len(keys), 8192)
        self.same(curve(1024, keys), expected)

    def test_keys_all_different(self):
        self.answers(list(range(8192)), [0] + [8192] * 1024)
        self.answers(list(range(TOP_KEY, TOP_KEY - 8192, -1)), [0] + [8192] * 1024)

    def test_few_different_keys(self):
        self.answers([7] * 8192, [0] + [1] * 1024)
        self.answers([3, 4] * 4096, [0, 8192] + [2] * 1023)
        # 0!, 0 at 1, 1!, then 0 at 2, 0 at 1, 1 at 2 and so on: 2731 uses are at 1.
        self.answers(([0, 0, 1] * 2731)[:8192], [0, 8192 - 2731] + [2] * 1023)

    def test_round_and_round(self):
        self.answers(list(range(1024)) * 8, [0] + [8192] * 1023 + [1024])
        self.answers(list(range(512)) * 16, [0] + [8192] * 511 + [512] * 513)

    def test_round_and_round_with_one_key_less_or_more_than_the_greatest_room(self):
        self.answers((list(range(1023)) * 9)[:8192], [0] + [8192] * 1022 + [1023] * 2)
        self.answers((list(range(1025)) * 8)[:8192], [0] + [8192] * 1024)

    def test_there_and_back(self):
        # At each of the 7 turns one key is at 1, the one behind it at 2, and so on to the last at 1024.
        there = list(range(1024))
        self.answers((there + there[::-1]) * 4, [0] + [8192 - 7 * room for room in range(1, 1025)])


if __name__ == "__main__":
    unittest.main()
