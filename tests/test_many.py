"""Points 1 and 5 of the document, as far as they concern many, and what holds of it."""

import inspect
import math
import random
import sys
import unittest

from tests.support import TOO_GREAT, TOP, WRONG_NUMBERS, EachCallByItself, is_awake
from wakeslots.meeting import many, next_awake


def walked(p, q, end):
    """Answer for each n from 0 to end what many is to tell, by a walk slot by slot."""
    counts = [0]
    for slot in range(end):
        counts.append(counts[-1] + is_awake(p, q, slot))
    return counts


def walked_by_rounds(p, q, n):
    """Answer what many is to tell of a great n: one round is walked, and all rounds are alike."""
    counts = walked(p, q, math.lcm(p, q))
    rounds, rest = divmod(n, len(counts) - 1)
    return rounds * counts[-1] + counts[rest]


def drawn_pairs(seed, how_many, greatest=1000):
    draw = random.Random(seed)
    return [(draw.randint(2, greatest), draw.randint(2, greatest)) for time in range(how_many)]


def drawn_coprime(seed, how_many):
    return [(p, q) for p, q in drawn_pairs(seed, how_many) if math.gcd(p, q) == 1]


class AgainstTheWalk(unittest.TestCase):
    def test_all_small_numbers_for_two_rounds(self):
        for p in range(2, 21):
            for q in range(2, 21):
                for n, count in enumerate(walked(p, q, 2 * p * q)):
                    self.assertEqual(many(p, q, n), [count], (p, q, n))

    def test_drawn_numbers(self):
        draw = random.Random(51)
        for p, q in drawn_pairs(seed=52, how_many=60):
            counts = walked(p, q, 40000)
            for n in [draw.randint(0, 40000) for time in range(300)] + [39999, 40000]:
                self.assertEqual(many(p, q, n), [counts[n]], (p, q, n))

    def test_chosen_numbers_for_a_whole_round(self):
        for p, q in ((12, 18), (31, 29), (40, 1000), (2, 997), (96, 100)):
            for n, count in enumerate(walked(p, q, p * q + 1)):
                self.assertEqual(many(p, q, n), [count], (p, q, n))

    def test_great_n_by_rounds(self):
        draw = random.Random(53)
        for p, q in drawn_pairs(seed=54, how_many=15) + drawn_pairs(seed=55, how_many=200, greatest=60):
            for n in (draw.randint(0, TOP), TOP - 1, TOP):
                self.assertEqual(many(p, q, n), [walked_by_rounds(p, q, n)], (p, q, n))


class Ordinary(unittest.TestCase):
    def test_written_out(self):
        # 0, 3, 5, 6, 9, 10, 12, 15, 18, 20
        self.assertEqual(many(3, 5, 10), [5])
        self.assertEqual(many(3, 5, 11), [6])
        self.assertEqual(many(3, 5, 15), [7])
        self.assertEqual(many(3, 5, 16), [8])
        self.assertEqual(many(3, 5, 21), [10])
        # 0, 4, 6, 8, 12
        self.assertEqual(many(4, 6, 12), [4])
        self.assertEqual(many(4, 6, 13), [5])

    def test_order_of_the_two_numbers_is_one(self):
        draw = random.Random(56)
        for p, q in drawn_pairs(seed=57, how_many=200):
            for n in (0, 1, TOP, draw.randint(0, TOP), draw.randint(0, 10000)):
                self.assertEqual(many(p, q, n), many(q, p, n), (p, q, n))

    def test_parameters_by_their_names(self):
        self.assertEqual(list(inspect.signature(many).parameters), ["ap", "aq", "n"])
        self.assertEqual(many(n=21, aq=5, ap=3), [10])
        self.assertEqual(many(n=13, aq=2, ap=9), [8])


class Corners(unittest.TestCase):
    PAIRS = ((2, 2), (7, 7), (3, 5), (4, 6), (4, 12), (2, 1000), (1000, 1000), (997, 991), (999, 1000))

    def test_n_is_nought(self):
        for p, q in self.PAIRS:
            self.assertEqual(many(p, q, 0), [0], (p, q))
            self.assertEqual(many(q, p, 0), [0], (q, p))

    def test_n_is_1(self):
        for p, q in self.PAIRS:
            self.assertEqual(many(p, q, 1), [1], (p, q))
            self.assertEqual(many(q, p, 1), [1], (q, p))

    def test_both_numbers_the_same(self):
        self.assertEqual(many(7, 7, 7), [1])
        self.assertEqual(many(7, 7, 8), [2])
        self.assertEqual(many(7, 7, 70), [10])
        self.assertEqual(many(7, 7, 71), [11])
        self.assertEqual(many(2, 2, TOP), [TOP // 2])
        self.assertEqual(many(1000, 1000, TOP), [1099511628])

    def test_one_divides_the_other(self):
        self.assertEqual(many(4, 12, 12), [3])
        self.assertEqual(many(4, 12, 13), [4])
        self.assertEqual(many(12, 4, 24), [6])
        self.assertEqual(many(12, 4, 25), [7])
        self.assertEqual(many(2, 1000, TOP), [TOP // 2])
        self.assertEqual(many(500, 1000, TOP), [2199023256])

    def test_n_round_the_multiples(self):
        # 0, 6, 10, 12, 18, 20, 24, 30, 36
        self.assertEqual([many(6, 10, n)[0] for n in (5, 6, 7)], [1, 1, 2])
        self.assertEqual([many(6, 10, n)[0] for n in (9, 10, 11)], [2, 2, 3])
        self.assertEqual([many(6, 10, n)[0] for n in (17, 18, 19)], [4, 4, 5])
        self.assertEqual([many(6, 10, n)[0] for n in (29, 30, 31)], [7, 7, 8])
        self.assertEqual([many(6, 10, n)[0] for n in (59, 60, 61)], [14, 14, 15])

    def test_n_round_the_multiples_of_drawn_numbers(self):
        for p, q in drawn_pairs(seed=58, how_many=20):
            counts = walked(p, q, 20 * max(p, q) + 1)
            for middle in [p * times for times in range(1, 21)] + [q * times for times in range(1, 21)]:
                for n in (middle - 1, middle, middle + 1):
                    self.assertEqual(many(p, q, n), [counts[n]], (p, q, n))
        for p, q in drawn_pairs(seed=59, how_many=20, greatest=150):
            both = math.lcm(p, q)
            counts = walked(p, q, 2 * both + 1)
            for n in (both - 1, both, both + 1, 2 * both - 1, 2 * both, 2 * both + 1):
                self.assertEqual(many(p, q, n), [counts[n]], (p, q, n))

    def test_n_at_its_greatest(self):
        self.assertEqual(many(2, 3, TOP), [733007751851])
        self.assertEqual(many(4, 6, TOP), [366503875925])
        self.assertEqual(many(1000, 999, TOP), [2199023256])
        self.assertEqual(many(997, 991, TOP), [2211204355])

    def test_997_and_991(self):
        self.assertEqual(many(997, 991, 991), [1])
        self.assertEqual(many(997, 991, 992), [2])
        self.assertEqual(many(997, 991, 997), [2])
        self.assertEqual(many(997, 991, 998), [3])
        self.assertEqual(many(997, 991, 988027), [1987])
        self.assertEqual(many(997, 991, 988028), [1988])
        self.assertEqual(many(997, 997, 997 * 991), [991])

    def test_great_n_is_answered_at_once(self):
        rows = []

        def count_row(frame, event, argument):
            rows.append(event)
            if len(rows) > 1000:
                raise AssertionError("n is walked through")
            return count_row

        former = sys.gettrace()
        sys.settrace(count_row)
        try:
            answer = many(997, 991, TOP)
        finally:
            sys.settrace(former)
        self.assertEqual(answer, [2211204355])
        self.assertGreater(len(rows), 0)


class WhatHolds(unittest.TestCase):
    def hold_seldom_awake(self, p, q, n):
        more = many(p, q, n + p * q)[0] - many(p, q, n)[0]
        self.assertEqual(more, p + q - 1, (p, q, n))

    def test_seldom_awake(self):
        draw = random.Random(61)
        for p, q in drawn_coprime(seed=62, how_many=500) + [(997, 991), (999, 1000), (2, 3), (1000, 999)]:
            greatest = TOP - p * q
            for n in (0, 1, p, q, greatest, draw.randint(0, greatest), draw.randint(0, 10000)):
                self.hold_seldom_awake(p, q, n)

    def test_seldom_awake_for_every_small_n(self):
        for p, q in ((2, 3), (4, 9), (5, 7), (8, 15), (10, 21)):
            for n in range(2 * p * q):
                self.hold_seldom_awake(p, q, n)


class WithNextAwake(unittest.TestCase):
    def hold_together(self, p, q, t):
        more = many(p, q, t + 1)[0] - many(p, q, t)[0]
        self.assertEqual(more, 1 if next_awake(p, q, t) == [t] else 0, (p, q, t))

    def test_all_small_numbers(self):
        for p in range(2, 13):
            for q in range(2, 13):
                for t in range(p * q + 1):
                    self.hold_together(p, q, t)

    def test_drawn_numbers_round_the_slots_awake(self):
        draw = random.Random(63)
        for p, q in drawn_pairs(seed=64, how_many=200) + [(997, 991), (1000, 1000), (2, 1000)]:
            for t in (draw.randint(1, TOP // 2), draw.randint(1, 10000), TOP - 2500):
                slot = next_awake(p, q, t)[0]
                for near in (t, slot - 1, slot, slot + 1):
                    self.hold_together(p, q, near)

    def test_up_to_the_greatest_n(self):
        for p, q in ((2, 3), (3, 7), (7, 7), (4, 12), (997, 991), (1000, 999)):
            for t in range(TOP - 2000, TOP):
                self.hold_together(p, q, t)


class Refusals(unittest.TestCase):
    def refused(self, p, q, n):
        self.assertEqual(many(p, q, n), [-22], (p, q, n))

    def test_one_number_wrong(self):
        for wrong in WRONG_NUMBERS:
            for right in (2, 7, 1000):
                for n in (0, 1, 1001, TOP):
                    self.refused(wrong, right, n)
                    self.refused(right, wrong, n)

    def test_n_too_great(self):
        for n in TOO_GREAT:
            for p, q in Corners.PAIRS:
                self.refused(p, q, n)

    def test_several_faults(self):
        for wrong in WRONG_NUMBERS:
            for other in WRONG_NUMBERS:
                for n in (0, 5, TOP) + TOO_GREAT:
                    self.refused(wrong, other, n)
            for n in TOO_GREAT:
                self.refused(wrong, 7, n)
                self.refused(7, wrong, n)

    def test_just_inside_is_not_refused(self):
        for p in (2, 1000):
            for q in (2, 1000):
                for n in (0, TOP):
                    self.assertNotEqual(many(p, q, n), [-22], (p, q, n))


class EachCall(EachCallByItself, unittest.TestCase):
    CALLS = ((3, 5, 21), (997, 991, TOP), (0, 5, 4), (3, 5, TOP + 1), (7, 7, 0), (1000, 2, 999), (4, 12, 1))

    def asked(self, call):
        return many(*call)


if __name__ == "__main__":
    unittest.main()
