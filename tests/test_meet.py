"""Points 1 and 3 of the document, as far as they concern meet, and what holds of meeting."""

import inspect
import math
import random
import unittest

from tests.support import (
    TOO_GREAT, TOP, WRONG_NUMBERS, EachCallByItself, coprime_products, do_meet, drawn_crosswise, drawn_fours,
    fours_with_one_wrong, pairs_of,
)
from wakeslots.meeting import meet


def walked(four, d, t, end):
    for slot in range(t, end):
        if do_meet(four, d, slot):
            return [slot]
    return [-2]


def answers_of_a_round(four, d):
    """Answer what meet is to tell for each t of one round, by a walk slot by slot, from the end on backwards."""
    whole = math.lcm(*four)
    answers = [None] * whole
    following = -2
    # The second round's first meeting is what the last slots of the first round wait for.
    for slot in range(2 * whole - 1, -1, -1):
        if do_meet(four, d, slot):
            following = slot
        if slot < whole:
            answers[slot] = [following]
    return answers


class AgainstTheWalk(unittest.TestCase):
    def hold_a_whole_round(self, four):
        whole = math.lcm(*four)
        for d in range(whole):
            for t, answer in enumerate(answers_of_a_round(four, d)):
                self.assertEqual(meet(*four, d, t), answer, (four, d, t))

    def test_all_small_numbers_every_d_and_t(self):
        for ap in range(2, 6):
            for aq in range(2, 6):
                for bp in range(2, 6):
                    for bq in range(2, 6):
                        self.hold_a_whole_round((ap, aq, bp, bq))

    def test_chosen_numbers_every_d_and_t(self):
        for four in ((6, 4, 9, 12), (6, 10, 15, 30), (8, 12, 6, 24), (7, 14, 7, 21), (12, 12, 18, 18),
                     (2, 11, 4, 6), (13, 3, 3, 13), (20, 30, 12, 15), (6, 35, 10, 14)):
            self.hold_a_whole_round(four)

    def test_d_and_t_beyond_a_round(self):
        for four in drawn_fours(seed=1, many=60, greatest=12):
            whole = math.lcm(*four)
            for d in (whole, whole + 1, 3 * whole - 1, TOP - 1, TOP):
                for t in (whole - 1, whole, 5 * whole + 2, TOP - 1, TOP):
                    self.assertEqual(meet(*four, d, t), walked(four, d, t, t + whole), (four, d, t))

    def test_great_numbers(self):
        draw = random.Random(2)
        for four in drawn_fours(seed=3, many=60, greatest=1000):
            d, t = draw.randint(0, TOP), draw.randint(0, TOP)
            ends = [t + math.lcm(x, y) for x, y in pairs_of(four) if d % math.gcd(x, y) == 0]
            self.assertEqual(meet(*four, d, t), walked(four, d, t, max(ends, default=t)), (four, d, t))


class Ordinary(unittest.TestCase):
    def test_written_out(self):
        self.assertEqual(meet(3, 5, 4, 7, 1, 0), [3])
        self.assertEqual(meet(3, 5, 4, 7, 1, 4), [6])
        self.assertEqual(meet(3, 3, 5, 5, 1, 0), [9])
        self.assertEqual(meet(3, 3, 5, 5, 1, 10), [24])
        self.assertEqual(meet(3, 3, 5, 5, 2, 0), [3])
        self.assertEqual(meet(10, 10, 7, 7, 3, 0), [60])

    def test_d_is_added_to_a_s_clock(self):
        self.assertEqual(meet(5, 5, 7, 7, 1, 0), [20])
        self.assertEqual(meet(7, 7, 5, 5, 1, 0), [14])

    def test_each_pair_of_numbers_counts(self):
        self.assertEqual(meet(3, 900, 4, 900, 1, 1), [3])
        self.assertEqual(meet(3, 900, 900, 4, 1, 1), [3])
        self.assertEqual(meet(900, 3, 4, 900, 1, 1), [3])
        self.assertEqual(meet(900, 3, 900, 4, 1, 1), [3])

    def test_order_of_a_sleeper_s_numbers_is_one(self):
        draw = random.Random(4)
        for ap, aq, bp, bq in drawn_fours(seed=5, many=60, greatest=1000):
            d, t = draw.randint(0, TOP), draw.randint(0, TOP)
            answer = meet(ap, aq, bp, bq, d, t)
            self.assertEqual(meet(aq, ap, bp, bq, d, t), answer)
            self.assertEqual(meet(ap, aq, bq, bp, d, t), answer)
            self.assertEqual(meet(aq, ap, bq, bp, d, t), answer)

    def test_parameters_by_their_names(self):
        self.assertEqual(list(inspect.signature(meet).parameters), ["ap", "aq", "bp", "bq", "d", "t"])
        self.assertEqual(meet(t=4, d=1, bq=7, bp=4, aq=5, ap=3), [6])


class Corners(unittest.TestCase):
    def test_both_numbers_the_same(self):
        self.assertEqual(meet(7, 7, 7, 7, 0, 1), [7])
        self.assertEqual(meet(7, 7, 7, 7, 14, 8), [14])
        self.assertEqual(meet(7, 7, 7, 7, 1, 0), [-2])
        self.assertEqual(meet(7, 7, 2, 3, 1, 0), [7])
        self.assertEqual(meet(7, 7, 9, 9, 4, 0), [14])

    def test_one_divides_the_other(self):
        self.assertEqual(meet(4, 12, 5, 5, 1, 0), [4])
        self.assertEqual(meet(4, 12, 3, 9, 1, 0), [8])
        self.assertEqual(meet(12, 4, 9, 3, 1, 9), [20])
        self.assertEqual(meet(4, 4, 12, 12, 4, 0), [8])
        self.assertEqual(meet(4, 4, 12, 12, 6, 0), [-2])
        self.assertEqual(meet(500, 1000, 3, 3, 1, TOP), [1099511628500])

    def test_t_in_which_they_meet_is_the_answer(self):
        self.assertEqual(meet(3, 5, 4, 7, 1, 3), [3])
        self.assertEqual(meet(3, 3, 5, 5, 1, 9), [9])
        self.assertEqual(meet(10, 10, 7, 7, 3, 60), [60])
        self.assertEqual(meet(997, 991, 997, 991, 0, 988027), [988027])
        for four in drawn_fours(seed=6, many=40, greatest=1000):
            slot = meet(*four, 30030, 12345)[0]
            if slot != -2:
                self.assertEqual(meet(*four, 30030, slot), [slot], four)

    def test_common_divisors_all_crosswise(self):
        for d in range(0, 40):
            if d % 2 == 0:
                self.assertNotEqual(meet(4, 8, 6, 10, d, 5), [-2], d)
            else:
                self.assertEqual(meet(4, 8, 6, 10, d, 5), [-2], d)
        self.assertEqual(meet(4, 8, 6, 10, 2, 0), [4])
        self.assertEqual(meet(6, 12, 9, 15, 3, 0), [6])
        self.assertEqual(meet(6, 12, 9, 15, 2, 0), [-2])
        self.assertEqual(meet(6, 10, 15, 30, 7, 0), [-2])
        self.assertEqual(meet(6, 10, 15, 30, 5, 0), [10])
        self.assertEqual(meet(6, 10, 15, 30, 3, 0), [12])
        self.assertEqual(meet(1000, 500, 998, 502, TOP, TOP), [1099511740500])
        self.assertEqual(meet(1000, 500, 998, 502, TOP - 1, TOP), [-2])

    def test_crosswise_by_the_divisors(self):
        draw = random.Random(7)
        for four in drawn_crosswise(seed=8, many=200):
            for d in [draw.randint(0, TOP) for time in range(10)] + [TOP, TOP - 1, 0, 1, 6, 210]:
                divides = [math.gcd(x, y) for x, y in pairs_of(four) if d % math.gcd(x, y) == 0]
                answer = meet(*four, d, draw.randint(0, TOP))
                self.assertEqual(answer != [-2], bool(divides), (four, d))

    def test_d_is_nought(self):
        self.assertEqual(meet(3, 5, 4, 7, 0, 0), [0])
        self.assertEqual(meet(3, 5, 4, 7, 0, 1), [12])
        self.assertEqual(meet(3, 5, 3, 5, 0, 1), [3])
        self.assertEqual(meet(6, 10, 15, 30, 0, 1), [30])
        self.assertEqual(meet(997, 997, 991, 991, 0, 1), [988027])

    def test_t_is_nought_and_t_at_its_greatest(self):
        self.assertEqual(meet(997, 997, 991, 991, 0, 0), [0])
        self.assertEqual(meet(2, 3, 2, 3, 0, TOP), [TOP])
        self.assertEqual(meet(997, 991, 997, 991, 0, TOP), [1099511628082])
        self.assertEqual(meet(997, 991, 997, 991, 1, TOP), [1099511850066])

    def test_d_at_its_greatest(self):
        self.assertEqual(meet(2, 2, 2, 2, TOP, 1), [2])
        self.assertEqual(meet(3, 3, 3, 3, TOP, 0), [-2])
        self.assertEqual(meet(3, 3, 5, 5, TOP, 0), [9])
        self.assertEqual(meet(2, 2, 2, 2, TOP, TOP), [TOP])
        self.assertEqual(meet(997, 991, 997, 991, TOP, TOP), [1099512065419])
        self.assertEqual(meet(1000, 1000, 999, 999, TOP, TOP), [1099512371000])

    def test_997_and_991(self):
        self.assertEqual(meet(997, 991, 997, 991, 1, 0), [164505])
        self.assertEqual(meet(997, 997, 991, 991, 1, 0), [164505])
        self.assertEqual(meet(997, 997, 997, 997, 1, 0), [-2])
        # One slot behind a meeting the whole product is waited through, but for that slot.
        self.assertEqual(meet(997, 997, 991, 991, 1, 164506), [164505 + 988027])
        self.assertEqual(meet(997, 997, 991, 991, 0, 1), [988027])
        for t in (0, 1, 164505, 164506, 500000):
            for four in ((997, 991, 997, 991), (991, 991, 997, 997), (997, 991, 991, 991)):
                self.assertEqual(meet(*four, 1, t), walked(four, 1, t, t + 988027), (four, t))

    def test_least_and_greatest_numbers(self):
        self.assertEqual(meet(2, 2, 2, 2, 1, 0), [-2])
        self.assertEqual(meet(2, 2, 2, 2, 2, 1), [2])
        self.assertEqual(meet(1000, 1000, 1000, 1000, 999, 0), [-2])
        self.assertEqual(meet(1000, 1000, 1000, 1000, 1000, 1), [1000])
        self.assertEqual(meet(1000, 1000, 999, 999, 1, 0), [998000])


class WhatHolds(unittest.TestCase):
    def test_they_meet_in_time(self):
        draw = random.Random(9)
        for four in drawn_fours(seed=10, many=300, greatest=1000) + drawn_fours(seed=11, many=200, greatest=9):
            for n in coprime_products(four):
                for d in (0, 1, TOP, draw.randint(0, TOP)):
                    for t in (0, TOP, draw.randint(0, TOP)):
                        slot = meet(*four, d, t)[0]
                        self.assertTrue(t <= slot < t + n, (four, d, t))
                        self.assertTrue(do_meet(four, d, slot), (four, d, t))

    def test_never_with_d_1_if_no_two_fit(self):
        draw = random.Random(12)
        for four in drawn_crosswise(seed=13, many=300):
            for t in (0, 1, TOP, draw.randint(0, TOP)):
                self.assertEqual(meet(*four, 1, t), [-2], (four, t))

    def test_the_same_slots_by_either_one_s_clock(self):
        draw = random.Random(14)
        for four in drawn_fours(seed=15, many=300, greatest=1000) + drawn_crosswise(seed=16, many=100):
            ap, aq, bp, bq = four
            d, t = draw.randint(0, TOP // 2), draw.randint(0, TOP // 2)
            # By b's clock a lies behind by d; a whole round less d tells the same, and a round is below 2^40.
            back = -d % math.lcm(*four)
            here, there = meet(ap, aq, bp, bq, d, t)[0], meet(bp, bq, ap, aq, back, t + d)[0]
            self.assertEqual(there, -2 if here == -2 else here + d, (four, d, t))

    def test_either_way_with_d_nought(self):
        draw = random.Random(17)
        for ap, aq, bp, bq in drawn_fours(seed=18, many=100, greatest=1000):
            t = draw.randint(0, TOP)
            self.assertEqual(meet(ap, aq, bp, bq, 0, t), meet(bp, bq, ap, aq, 0, t))


class Refusals(unittest.TestCase):
    def refused(self, four, d, t):
        self.assertEqual(meet(*four, d, t), [-22], (four, d, t))

    def test_one_number_wrong(self):
        for four in fours_with_one_wrong():
            for d in (0, 1, TOP):
                for t in (0, 1, TOP):
                    self.refused(four, d, t)

    def test_several_numbers_wrong(self):
        for one in WRONG_NUMBERS:
            for other in WRONG_NUMBERS:
                self.refused((one, other, 4, 7), 1, 0)
                self.refused((3, 5, one, other), 1, 0)
                self.refused((one, 5, other, 7), 1, 0)
                self.refused((one, 5, 4, other), 1, 0)
                self.refused((3, one, other, 7), 1, 0)
                self.refused((3, one, 4, other), 1, 0)
                self.refused((one, other, one, other), 1, 0)

    def test_d_or_t_too_great(self):
        for four in ((3, 5, 4, 7), (997, 991, 997, 991), (2, 2, 2, 2), (4, 8, 6, 10)):
            for much in TOO_GREAT:
                for fit in (0, 1, TOP):
                    self.refused(four, much, fit)
                    self.refused(four, fit, much)
                for more in TOO_GREAT:
                    self.refused(four, much, more)

    def test_several_faults(self):
        for four in fours_with_one_wrong():
            for much in TOO_GREAT:
                self.refused(four, much, 0)
                self.refused(four, 0, much)
                self.refused(four, much, much)

    def test_refused_ahead_of_never(self):
        self.assertEqual(meet(4, 8, 6, 10, 1, 0), [-2])
        self.refused((4, 8, 6, 10), TOP + 1, 0)
        self.refused((4, 8, 6, 10), 1, TOP + 1)
        self.refused((4, 8, 6, 1002), 1, 0)

    def test_just_inside_is_not_refused(self):
        for ap in (2, 1000):
            for aq in (2, 1000):
                for bp in (2, 1000):
                    for bq in (2, 1000):
                        self.assertNotEqual(meet(ap, aq, bp, bq, TOP, TOP), [-22])


class EachCall(EachCallByItself, unittest.TestCase):
    CALLS = (
        (3, 5, 4, 7, 1, 4), (997, 991, 997, 991, TOP, TOP), (0, 5, 4, 7, 1, 4), (3, 5, 4, 1001, 1, 4),
        (3, 5, 4, 7, TOP + 1, 4), (3, 5, 4, 7, 1, TOP + 1), (4, 8, 6, 10, 1, 0), (7, 7, 7, 7, 0, 0),
    )

    def asked(self, call):
        return meet(*call)


if __name__ == "__main__":
    unittest.main()
