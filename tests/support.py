"""What the tests of more than one call need."""

import contextlib
import io
import sys

TOP = 2 ** 40
GREATEST_P = 4294967295
GREATEST_T = 18446744073709551615
WRONG_NUMBERS = (0, 1, 1001, GREATEST_P)
TOO_GREAT = (TOP + 1, GREATEST_T)


def is_awake(p, q, slot):
    return slot % p == 0 or slot % q == 0


class Deaf(io.StringIO):
    """An input that can't be read from."""

    def read(self, *size):
        raise AssertionError("the input was read")

    readline = read
    __next__ = read


class EachCallByItself:
    """Beside TestCase, with CALLS and asked(call): a call neither keeps nor leaves anything behind."""

    def test_kind_of_the_answer(self):
        for call in self.CALLS:
            answer = self.asked(call)
            self.assertIs(type(answer), list)
            self.assertEqual(len(answer), 1)
            self.assertIs(type(answer[0]), int)

    def test_same_call_again_with_others_between(self):
        for call in self.CALLS:
            before = self.asked(call)
            for other in self.CALLS:
                self.asked(other)
            self.assertEqual(self.asked(call), before)

    def test_answer_that_was_changed_does_not_come_back(self):
        for call in self.CALLS:
            answer = self.asked(call)
            kept = list(answer)
            answer.append(1)
            answer[0] = 1
            self.assertEqual(self.asked(call), kept)

    def test_what_is_handed_in_stays_as_it_was(self):
        for call in self.CALLS:
            handed = list(call)
            self.asked(handed)
            self.assertEqual(handed, list(call))

    def test_nothing_printed_read_or_imported(self):
        out, err, stdin = io.StringIO(), io.StringIO(), sys.stdin
        loaded = set(sys.modules)
        sys.stdin = Deaf()
        try:
            with contextlib.redirect_stdout(out), contextlib.redirect_stderr(err):
                for call in self.CALLS:
                    self.asked(call)
        finally:
            sys.stdin = stdin
        self.assertEqual((out.getvalue(), err.getvalue()), ("", ""))
        self.assertEqual(set(sys.modules), loaded)
