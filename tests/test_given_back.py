"""misses and curve: what they give back, what they leave as it was, and that they keep nothing."""

import unittest

from cacherules.misses import curve, misses

RULES = (0, 1, 2, 3, 4)
TOP_KEY = 18446744073709551615
ROW = (1, 2, 1, 3, 4, 2, 2, 3, 4, 3, 0, TOP_KEY, 1)


class Unchanging(list):
    """A list that can be read alone."""

    def refuse(self, *args, **kwargs):
        raise AssertionError("what is handed in was changed")

    append = clear = extend = insert = pop = remove = reverse = sort = refuse
    __delitem__ = __iadd__ = __imul__ = __setitem__ = refuse


class GivenBack(unittest.TestCase):
    def whole_numbers(self, answer, how_many):
        self.assertIs(type(answer), list)
        self.assertEqual(len(answer), how_many)
        for number in answer:
            self.assertIs(type(number), int)


class Misses(GivenBack):
    def test_a_list_of_one_whole_number(self):
        for rule in RULES + (-1, 5):
            for room in (0, 1, 3, 1024, 1025):
                for keys in ([], list(ROW)):
                    self.whole_numbers(misses(rule, room, keys), 1)

    def test_what_is_handed_in_is_as_it_was(self):
        for rule in RULES:
            keys = list(ROW)
            self.assertIsNot(misses(rule, 3, keys), keys)
            self.assertEqual(keys, list(ROW))

    def test_what_is_handed_in_is_not_changed_for_a_while_either(self):
        for rule in RULES:
            self.assertEqual(misses(rule, 3, Unchanging(ROW)), misses(rule, 3, list(ROW)))

    def test_nothing_is_kept_from_one_time_to_the_next(self):
        for rule in RULES:
            keys = list(ROW)
            first = misses(rule, 3, keys)
            misses(rule, 1024, [1, 2, 3, 4])
            misses(-1, 3, keys)
            curve(3, keys)
            self.assertEqual(misses(rule, 3, keys), first)
            self.assertEqual(misses(rule, 3, list(ROW)), first)

    def test_an_answer_that_is_changed_changes_no_later_one(self):
        first = misses(0, 3, [1, 2])
        first.append(5)
        refused = misses(5, 3, [1, 2])
        refused.append(5)
        self.assertEqual(misses(0, 3, [1, 2]), [2])
        self.assertEqual(misses(5, 3, [1, 2]), [-2])


class Curve(GivenBack):
    mosts = (0, 1, 2, 3, 7, 1023, 1024)

    def same(self, answer, expected):
        """No assertEqual: unittest takes very long to tell two long lists apart."""
        self.assertTrue(answer == expected, (answer[:9], expected[:9]))

    def test_a_list_of_0_then_most_whole_numbers(self):
        for most in self.mosts:
            for keys in ([], [0], [TOP_KEY] * 9, list(ROW), list(range(2000))):
                answer = curve(most, keys)
                self.whole_numbers(answer, most + 1)
                self.assertEqual(answer[0], 0)

    def test_what_is_handed_in_is_as_it_was(self):
        for most in self.mosts:
            keys = list(ROW)
            self.assertIsNot(curve(most, keys), keys)
            self.assertEqual(keys, list(ROW))

    def test_what_is_handed_in_is_not_changed_for_a_while_either(self):
        for most in self.mosts:
            self.same(curve(most, Unchanging(ROW)), curve(most, list(ROW)))

    def test_nothing_is_kept_from_one_time_to_the_next(self):
        for most in self.mosts:
            keys = list(ROW)
            first = curve(most, keys)
            curve(1024, [4, 3, 2, 1])
            curve(0, keys)
            misses(1, 3, keys)
            self.same(curve(most, keys), first)
            self.same(curve(most, list(ROW)), first)

    def test_an_answer_that_is_changed_changes_no_later_one(self):
        for most, expected in ((0, [0]), (2, [0, 2, 2])):
            first = curve(most, [1, 2])
            first.append(5)
            first[0] = 5
            self.assertEqual(curve(most, [1, 2]), expected)


if __name__ == "__main__":
    unittest.main()
