"""Points 1 and 4 of the document, as far as they concern within, and what holds of it together with meet."""

import functools
import inspect
import itertools
import random
import unittest

from tests.support import (
    TOP, WRONG_NUMBERS, EachCallByItself, do_meet, drawn_crosswise, drawn_fours, fours_with_one_wrong, pairs_of,
)
from wakeslots.meeting import meet, within


@functools.lru_cache(maxsize=None)
def have_common_divisor(x, y):
    return any(x % divisor == 0 and y % divisor == 0 for divisor in range(2, min(x, y) + 1))


def reckoned(four):
    products = [x * y for x, y in pairs_of(four) if not have_common_divisor(x, y)]
    return [min(products)] if products else [-2]


class AgainstTheReckoning(unittest.TestCase):
    def hold(self, four):
        self.assertEqual(within(*four), reckoned(four), four)

    def test_all_small_numbers(self):
        for four in itertools.product(range(2, 17), repeat=4):
            self.hold(four)

    def test_drawn_numbers(self):
        for greatest in (40, 1000):
            for four in drawn_fours(seed=21, many=1500, greatest=greatest):
                self.hold(four)

    def test_drawn_numbers_with_many_divisors(self):
        rich = (6, 10, 12, 15, 30, 35, 60, 77, 105, 210, 385, 420, 630, 770, 840, 924, 990, 1000)
        draw = random.Random(22)
        for time in range(1500):
            self.hold(tuple(draw.choice(rich) for number in range(4)))

    def test_drawn_common_divisors_all_crosswise(self):
        for four in drawn_crosswise(seed=23, many=500):
            self.assertEqual(reckoned(four), [-2], four)
            self.hold(four)

    def test_every_two_numbers(self):
        for p in range(2, 1001, 7):
            for q in range(2, 1001, 5):
                self.hold((p, p, q, q))


class Ordinary(unittest.TestCase):
    def test_written_out(self):
        self.assertEqual(within(3, 5, 4, 7), [12])
        self.assertEqual(within(6, 10, 4, 9), [90])
        self.assertEqual(within(10, 21, 6, 25), [525])
        self.assertEqual(within(15, 8, 12, 7), [56])
        self.assertEqual(within(100, 101, 102, 103), [10300])

    def test_parameters_by_their_names(self):
        self.assertEqual(list(inspect.signature(within).parameters), ["ap", "aq", "bp", "bq"])
        self.assertEqual(within(bq=14, bp=9, aq=35, ap=12), [315])


class Corners(unittest.TestCase):
    def test_both_numbers_the_same(self):
        self.assertEqual(within(7, 7, 7, 7), [-2])
        self.assertEqual(within(7, 7, 9, 9), [63])
        self.assertEqual(within(7, 7, 9, 14), [63])
        self.assertEqual(within(6, 6, 10, 35), [210])
        self.assertEqual(within(10, 35, 6, 6), [210])
        self.assertEqual(within(6, 6, 10, 14), [-2])

    def test_one_divides_the_other(self):
        self.assertEqual(within(4, 12, 9, 9), [36])
        self.assertEqual(within(12, 4, 9, 9), [36])
        self.assertEqual(within(4, 12, 5, 5), [20])
        self.assertEqual(within(4, 12, 3, 9), [12])
        self.assertEqual(within(4, 4, 12, 12), [-2])
        self.assertEqual(within(12, 12, 4, 4), [-2])
        self.assertEqual(within(2, 4, 8, 16), [-2])
        self.assertEqual(within(3, 7, 9, 14), [42])

    def test_common_divisors_all_crosswise(self):
        self.assertEqual(within(4, 8, 6, 10), [-2])
        self.assertEqual(within(6, 12, 9, 15), [-2])
        # Here no divisor is common to all four.
        self.assertEqual(within(6, 10, 15, 30), [-2])
        self.assertEqual(within(6, 35, 10, 21), [-2])
        self.assertEqual(within(10, 21, 6, 35), [-2])
        self.assertEqual(within(143, 323, 187, 221), [-2])

    def test_divisors_within_one_sleeper_do_not_count(self):
        self.assertEqual(within(6, 10, 7, 7), [42])
        self.assertEqual(within(7, 7, 6, 10), [42])
        self.assertEqual(within(8, 8, 9, 9), [72])

    def test_only_one_pair_serves(self):
        # 6 with 35, whose product isn't the least of the four.
        self.assertEqual(within(6, 10, 35, 14), [210])
        self.assertEqual(within(6, 10, 14, 35), [210])
        self.assertEqual(within(10, 6, 35, 14), [210])
        self.assertEqual(within(10, 6, 14, 35), [210])

    def test_two_pairs_serve_and_the_lesser_stands_first(self):
        self.assertEqual(within(5, 6, 4, 9), [20])
        self.assertEqual(within(6, 5, 4, 9), [20])
        self.assertEqual(within(3, 5, 4, 15), [12])
        self.assertEqual(within(3, 5, 15, 4), [12])
        self.assertEqual(within(3, 4, 8, 9), [24])
        self.assertEqual(within(3, 4, 9, 8), [24])

    def test_two_pairs_serve_and_the_lesser_stands_last(self):
        self.assertEqual(within(5, 6, 9, 4), [20])
        self.assertEqual(within(6, 5, 9, 4), [20])
        self.assertEqual(within(5, 3, 4, 15), [12])
        self.assertEqual(within(5, 3, 15, 4), [12])
        self.assertEqual(within(4, 3, 9, 8), [24])
        self.assertEqual(within(4, 3, 8, 9), [24])

    def test_lesser_numbers_do_not_always_serve(self):
        self.assertEqual(within(4, 9, 6, 25), [100])
        self.assertEqual(within(9, 4, 25, 6), [100])

    def test_997_and_991(self):
        self.assertEqual(within(997, 991, 997, 991), [988027])
        self.assertEqual(within(997, 997, 991, 991), [988027])
        self.assertEqual(within(991, 991, 997, 997), [988027])
        self.assertEqual(within(997, 991, 991, 997), [988027])
        self.assertEqual(within(997, 997, 997, 997), [-2])
        self.assertEqual(within(997, 997, 997, 991), [988027])
        self.assertEqual(within(997, 991, 2, 1000), [1982])

    def test_2_and_1000_at_either_place(self):
        for four in itertools.product((2, 1000), repeat=4):
            self.assertEqual(within(*four), [-2], four)
        self.assertEqual(within(2, 1000, 3, 999), [6])
        self.assertEqual(within(1000, 2, 999, 3), [6])
        self.assertEqual(within(3, 999, 2, 1000), [6])
        self.assertEqual(within(999, 3, 1000, 2), [6])
        self.assertEqual(within(2, 3, 1000, 1000), [3000])
        self.assertEqual(within(1000, 1000, 3, 2), [3000])
        self.assertEqual(within(2, 2, 999, 1000), [1998])
        self.assertEqual(within(1000, 1000, 999, 999), [999000])
        self.assertEqual(within(999, 999, 1000, 1000), [999000])


class WhatHolds(unittest.TestCase):
    def drawn(self, seed):
        return drawn_fours(seed, many=300, greatest=1000) + drawn_fours(seed + 1, many=300, greatest=12)

    def hold_in_time(self, four, n, d, t):
        slot = meet(*four, d, t)[0]
        self.assertTrue(t <= slot < t + n, (four, d, t))
        self.assertTrue(do_meet(four, d, slot), (four, d, t))

    def test_they_meet_in_time(self):
        draw = random.Random(31)
        for four in self.drawn(seed=32):
            n = within(*four)[0]
            if n == -2:
                continue
            for d in (0, 1, TOP - 1, TOP, draw.randint(0, TOP)):
                for t in (0, 1, TOP, draw.randint(0, TOP)):
                    self.hold_in_time(four, n, d, t)

    def test_they_meet_in_time_for_every_d_and_t_of_the_product(self):
        for four in ((3, 3, 5, 5), (4, 6, 9, 9), (2, 9, 9, 4), (6, 10, 35, 14)):
            n = within(*four)[0]
            for d in range(n):
                for t in range(n):
                    self.hold_in_time(four, n, d, t)

    def test_never_with_d_1_just_if_within_tells_so(self):
        draw = random.Random(34)
        fours = self.drawn(seed=35) + drawn_crosswise(seed=37, many=300)
        for four in fours + list(itertools.product(range(2, 9), repeat=4)):
            for t in (0, 1, TOP, draw.randint(0, TOP)):
                self.assertEqual(meet(*four, 1, t) == [-2], within(*four) == [-2], (four, t))

    def test_either_way(self):
        fours = self.drawn(seed=38) + drawn_crosswise(seed=40, many=300)
        for ap, aq, bp, bq in fours:
            answer = within(ap, aq, bp, bq)
            self.assertEqual(within(bp, bq, ap, aq), answer, (ap, aq, bp, bq))
            self.assertEqual(within(aq, ap, bp, bq), answer, (ap, aq, bp, bq))
            self.assertEqual(within(ap, aq, bq, bp), answer, (ap, aq, bp, bq))
            self.assertEqual(within(bq, bp, aq, ap), answer, (ap, aq, bp, bq))


class Refusals(unittest.TestCase):
    def test_one_number_wrong(self):
        for four in fours_with_one_wrong():
            self.assertEqual(within(*four), [-22], four)

    def test_several_numbers_wrong(self):
        for four in itertools.product(WRONG_NUMBERS + (2, 7, 1000), repeat=4):
            wrong = any(number in WRONG_NUMBERS for number in four)
            self.assertEqual(within(*four) == [-22], wrong, four)

    def test_refused_ahead_of_never(self):
        self.assertEqual(within(4, 8, 6, 10), [-2])
        self.assertEqual(within(4, 8, 6, 1002), [-22])
        self.assertEqual(within(0, 0, 0, 0), [-22])
        # One pair that would serve, beside a number that is refused.
        self.assertEqual(within(3, 1001, 4, 4), [-22])
        self.assertEqual(within(3, 3, 1, 4), [-22])


class EachCall(EachCallByItself, unittest.TestCase):
    CALLS = (
        (3, 5, 4, 7), (997, 991, 997, 991), (0, 5, 4, 7), (3, 5, 4, 1001), (4, 8, 6, 10), (7, 7, 7, 7),
        (2, 1000, 3, 999), (6, 10, 14, 35),
    )

    def asked(self, call):
        return within(*call)


if __name__ == "__main__":
    unittest.main()
