"""What the document promises over all four calls: the interface, point 1, and each call by itself."""

import inspect
import itertools
import unittest

from tests.support import TOO_GREAT, TOP, WRONG_NUMBERS, EachCallByItself
from wakeslots import meeting
from wakeslots.meeting import many, meet, next_awake, within

PARAMETERS = {
    next_awake: ("ap", "aq", "t"),
    meet: ("ap", "aq", "bp", "bq", "d", "t"),
    within: ("ap", "aq", "bp", "bq"),
    many: ("ap", "aq", "n"),
}
NUMBERS_OF_SLEEPERS = ("ap", "aq", "bp", "bq")


def fit_values(name):
    return (2, 7, 1000) if name in NUMBERS_OF_SLEEPERS else (0, 5, TOP)


def edge_values(name):
    return (2, 1000) if name in NUMBERS_OF_SLEEPERS else (0, TOP)


def wrong_values(name):
    return WRONG_NUMBERS if name in NUMBERS_OF_SLEEPERS else TOO_GREAT


class Interface(unittest.TestCase):
    def test_names_and_parameters(self):
        for function, names in PARAMETERS.items():
            self.assertEqual(tuple(inspect.signature(function).parameters), names)
            self.assertEqual(function.__module__, "wakeslots.meeting")

    def test_parameters_have_no_defaults(self):
        for function in PARAMETERS:
            for parameter in inspect.signature(function).parameters.values():
                self.assertIs(parameter.default, inspect.Parameter.empty, function)


class PointOne(unittest.TestCase):
    def test_each_number_by_itself(self):
        for function, names in PARAMETERS.items():
            for place, name in enumerate(names):
                places = [fit_values(fit) for fit in names]
                places[place] = wrong_values(name)
                for call in itertools.product(*places):
                    self.assertEqual(function(*call), [-22], (function, call))

    def test_every_two_numbers_at_once(self):
        for function, names in PARAMETERS.items():
            for wrong in itertools.combinations(names, 2):
                places = [wrong_values(name) if name in wrong else edge_values(name) for name in names]
                for call in itertools.product(*places):
                    self.assertEqual(function(*call), [-22], (function, call))

    def test_all_numbers_at_once(self):
        for function, names in PARAMETERS.items():
            for call in itertools.product(*[wrong_values(name) for name in names]):
                self.assertEqual(function(*call), [-22], (function, call))

    def test_edges_are_not_refused(self):
        for function, names in PARAMETERS.items():
            for call in itertools.product(*[edge_values(name) for name in names]):
                self.assertNotEqual(function(*call), [-22], (function, call))


class EachCall(EachCallByItself, unittest.TestCase):
    CALLS = (
        (next_awake, 3, 5, 7), (many, 3, 5, 7), (meet, 3, 5, 4, 7, 1, 4), (within, 3, 5, 4, 7),
        (next_awake, 997, 991, TOP), (many, 997, 991, TOP), (meet, 997, 991, 997, 991, TOP, TOP),
        (within, 997, 991, 997, 991), (meet, 4, 8, 6, 10, 1, 0), (within, 4, 8, 6, 10),
        (next_awake, 0, 5, 7), (many, 3, 1001, 7), (meet, 3, 5, 1, 7, 1, 4), (within, 3, 5, 4, 1001),
        (next_awake, 3, 5, TOP + 1), (many, 3, 5, TOP + 1), (meet, 3, 5, 4, 7, TOP + 1, 4),
        (next_awake, 7, 7, 0), (many, 7, 7, 0), (meet, 7, 7, 7, 7, 0, 0), (within, 7, 7, 7, 7),
    )

    def asked(self, call):
        return call[0](*call[1:])

    def test_answers_in_any_order(self):
        answers = [self.asked(call) for call in self.CALLS]
        backwards = [self.asked(call) for call in reversed(self.CALLS)]
        self.assertEqual(backwards[::-1], answers)

    def test_nothing_is_kept_at_the_module_s_top(self):
        before = {name: value for name, value in vars(meeting).items() if not name.startswith("__")}
        texts = repr(before)
        for call in self.CALLS:
            self.asked(call)
        after = {name: value for name, value in vars(meeting).items() if not name.startswith("__")}
        self.assertEqual(after, before)
        self.assertEqual(repr(after), texts)


if __name__ == "__main__":
    unittest.main()
