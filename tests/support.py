"""What the tests of more than one call need."""

import contextlib
import io
import math
import random
import sys

TOP = 2 ** 40
GREATEST_P = 4294967295
GREATEST_T = 18446744073709551615
WRONG_NUMBERS = (0, 1, 1001, GREATEST_P)
TOO_GREAT = (TOP + 1, GREATEST_T)


def is_awake(p, q, slot):
    return slot % p == 0 or slot % q == 0


def do_meet(four, d, slot):
    ap, aq, bp, bq = four
    return is_awake(ap, aq, slot) and is_awake(bp, bq, slot + d)


def pairs_of(four):
    ap, aq, bp, bq = four
    return ((ap, bp), (ap, bq), (aq, bp), (aq, bq))


def coprime_products(four):
    return [x * y for x, y in pairs_of(four) if math.gcd(x, y) == 1]


def drawn_fours(seed, many, greatest):
    draw = random.Random(seed)
    return [tuple(draw.randint(2, greatest) for number in range(4)) for four in range(many)]


def drawn_crosswise(seed, many):
    """Draw sleepers whose numbers have common divisors all crosswise."""
    fours = [four for four in drawn_fours(seed, many, 1000) if not coprime_products(four)]
    draw = random.Random(seed)
    for divisor in (2, 3, 5, 7, 31, 97, 331, 499):
        for four in range(5):
            fours.append(tuple(divisor * draw.randint(1, 1000 // divisor) for number in range(4)))
    return fours


def fours_with_one_wrong():
    for wrong in WRONG_NUMBERS:
        for place in range(4):
            for right in ((3, 5, 4, 7), (2, 1000, 1000, 2), (4, 8, 6, 10)):
                yield right[:place] + (wrong,) + right[place + 1:]


class Deaf(io.StringIO):
    """An input that can't be read from."""

    def read(self, *size):
        raise AssertionError("the input was read")

    readline = read
    __next__ = read


class EachCallByItself:
    """Beside TestCase, with CALLS and asked(call): a call neither keeps nor leaves anything behind."""

    def test_kind_of_the_answer(self):
        for call in self.CALLS:
            answer = self.asked(call)
            self.assertIs(type(answer), list)
            self.assertEqual(len(answer), 1)
            self.assertIs(type(answer[0]), int)

    def test_same_call_again_with_others_between(self):
        for call in self.CALLS:
            before = self.asked(call)
            for other in self.CALLS:
                self.asked(other)
            self.assertEqual(self.asked(call), before)

    def test_answer_that_was_changed_does_not_come_back(self):
        for call in self.CALLS:
            answer = self.asked(call)
            kept = list(answer)
            answer.append(1)
            answer[0] = 1
            self.assertEqual(self.asked(call), kept)

    def test_what_is_handed_in_stays_as_it_was(self):
        for call in self.CALLS:
            handed = list(call)
            self.asked(handed)
            self.assertEqual(handed, list(call))

    def test_nothing_printed_read_or_imported(self):
        out, err, stdin = io.StringIO(), io.StringIO(), sys.stdin
        loaded = set(sys.modules)
        sys.stdin = Deaf()
        try:
            with contextlib.redirect_stdout(out), contextlib.redirect_stderr(err):
                for call in self.CALLS:
                    self.asked(call)
        finally:
            sys.stdin = stdin
        self.assertEqual((out.getvalue(), err.getvalue()), ("", ""))
        self.assertEqual(set(sys.modules), loaded)
