"""Points 1 and 2 of the document, as far as they concern next_awake."""

import inspect
import unittest

from tests.support import TOO_GREAT, TOP, WRONG_NUMBERS, EachCallByItself, is_awake
from wakeslots.meeting import next_awake


def walked(p, q, t):
    slot = t
    while not is_awake(p, q, slot):
        slot += 1
    return [slot]


class AgainstTheWalk(unittest.TestCase):
    def hold(self, p, q, t):
        self.assertEqual(next_awake(p, q, t), walked(p, q, t), (p, q, t))

    def test_all_small_numbers(self):
        for p in range(2, 21):
            for q in range(2, 21):
                for t in range(0, 130):
                    self.hold(p, q, t)

    def test_whole_round_of_the_two(self):
        for p, q in ((6, 35), (12, 18), (31, 29), (40, 1000), (2, 997)):
            for t in range(0, p * q + 2):
                self.hold(p, q, t)

    def test_great_numbers(self):
        for p in (2, 3, 500, 990, 991, 997, 998, 999, 1000):
            for q in (2, 3, 500, 990, 991, 997, 998, 999, 1000):
                for t in (1, 499, 996, 998, 1001, 123456, 987036, 988026, TOP // 3):
                    self.hold(p, q, t)

    def test_up_to_the_greatest_t(self):
        for p in (2, 3, 7, 12, 500, 991, 997, 999, 1000):
            for q in (2, 3, 7, 12, 500, 991, 997, 999, 1000):
                for t in range(TOP - 5, TOP + 1):
                    self.hold(p, q, t)


class Ordinary(unittest.TestCase):
    def test_written_out(self):
        self.assertEqual(next_awake(3, 5, 1), [3])
        self.assertEqual(next_awake(3, 5, 4), [5])
        self.assertEqual(next_awake(3, 5, 7), [9])
        self.assertEqual(next_awake(3, 5, 13), [15])
        self.assertEqual(next_awake(10, 7, 15), [20])
        self.assertEqual(next_awake(10, 7, 22), [28])

    def test_order_of_the_two_numbers_is_one(self):
        for t in range(0, 200):
            self.assertEqual(next_awake(9, 14, t), next_awake(14, 9, t))

    def test_parameters_by_their_names(self):
        self.assertEqual(list(inspect.signature(next_awake).parameters), ["ap", "aq", "t"])
        self.assertEqual(next_awake(t=4, aq=5, ap=3), [5])


class Corners(unittest.TestCase):
    def test_both_the_same(self):
        self.assertEqual(next_awake(7, 7, 0), [0])
        self.assertEqual(next_awake(7, 7, 1), [7])
        self.assertEqual(next_awake(7, 7, 7), [7])
        self.assertEqual(next_awake(7, 7, 8), [14])
        self.assertEqual(next_awake(7, 7, TOP), [1099511627781])

    def test_one_divides_the_other(self):
        self.assertEqual(next_awake(4, 12, 9), [12])
        self.assertEqual(next_awake(12, 4, 9), [12])
        self.assertEqual(next_awake(4, 12, 13), [16])
        self.assertEqual(next_awake(12, 4, 13), [16])
        self.assertEqual(next_awake(500, 1000, TOP), [1099511628000])

    def test_t_in_which_awake_is_the_answer(self):
        self.assertEqual(next_awake(6, 10, 18), [18])
        self.assertEqual(next_awake(6, 10, 20), [20])
        self.assertEqual(next_awake(6, 10, 30), [30])
        self.assertEqual(next_awake(997, 991, 988027), [988027])

    def test_t_is_nought(self):
        for p in (2, 3, 991, 997, 1000):
            for q in (2, 3, 991, 997, 1000):
                self.assertEqual(next_awake(p, q, 0), [0])

    def test_t_at_its_greatest(self):
        self.assertEqual(next_awake(2, 3, TOP), [TOP])
        self.assertEqual(next_awake(3, 7, TOP), [1099511627778])
        self.assertEqual(next_awake(997, 991, TOP), [1099511628082])
        self.assertEqual(next_awake(997, 997, TOP), [1099511628733])
        self.assertEqual(next_awake(1000, 999, TOP), [1099511628000])

    def test_997_and_991(self):
        self.assertEqual(next_awake(997, 991, 1), [991])
        self.assertEqual(next_awake(997, 991, 992), [997])
        self.assertEqual(next_awake(997, 991, 998), [1982])
        self.assertEqual(next_awake(997, 991, 987037), [988027])
        self.assertEqual(next_awake(997, 991, 988028), [989018])

    def test_least_and_greatest_numbers(self):
        self.assertEqual(next_awake(2, 2, 1), [2])
        self.assertEqual(next_awake(2, 1000, 999), [1000])
        self.assertEqual(next_awake(1000, 2, 1001), [1002])
        self.assertEqual(next_awake(1000, 1000, 1), [1000])
        self.assertEqual(next_awake(1000, 1000, 1001), [2000])
        self.assertEqual(next_awake(1000, 1000, TOP), [1099511628000])


class Refusals(unittest.TestCase):
    def refused(self, p, q, t):
        self.assertEqual(next_awake(p, q, t), [-22], (p, q, t))

    def test_one_number_wrong(self):
        for wrong in WRONG_NUMBERS:
            for right in (2, 7, 1000):
                for t in (0, 1, 1001, TOP):
                    self.refused(wrong, right, t)
                    self.refused(right, wrong, t)

    def test_both_numbers_wrong(self):
        for p in WRONG_NUMBERS:
            for q in WRONG_NUMBERS:
                for t in (0, 5, TOP):
                    self.refused(p, q, t)

    def test_t_too_great(self):
        for t in TOO_GREAT:
            for p in (2, 7, 997, 1000):
                for q in (2, 7, 991, 1000):
                    self.refused(p, q, t)

    def test_several_faults(self):
        for t in TOO_GREAT:
            for wrong in WRONG_NUMBERS:
                self.refused(wrong, 7, t)
                self.refused(7, wrong, t)
                for other in WRONG_NUMBERS:
                    self.refused(wrong, other, t)

    def test_just_inside_is_not_refused(self):
        for p in (2, 1000):
            for q in (2, 1000):
                self.assertNotEqual(next_awake(p, q, TOP), [-22])


class EachCall(EachCallByItself, unittest.TestCase):
    CALLS = ((3, 5, 4), (997, 991, TOP), (0, 5, 4), (3, 5, TOP + 1), (7, 7, 0), (1000, 2, 999))

    def asked(self, call):
        return next_awake(*call)


if __name__ == "__main__":
    unittest.main()
