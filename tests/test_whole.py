"""What the document promises over all the calls."""

import copy
import io
import itertools
import pathlib
import subprocess
import sys
import unittest.mock

from checks import GREATEST, CallTest
from made64 import numbers

# Each call with an ordinary answer, an edge and, where there is one, each refusal.
ANSWERS = (
    ("common", (12, 18), [6]),
    ("common", (0, 0), [0]),
    ("power", (2, 10, 1000), [24]),
    ("power", (GREATEST, GREATEST, 0), [GREATEST]),
    ("inverse", (3, 10), [0, 7]),
    ("inverse", (4, 10), [-1]),
    ("prime", (97,), [1]),
    ("prime", (GREATEST,), [0]),
    ("next_of", (96,), [97]),
    ("next_of", (GREATEST,), [0]),
    ("parts", (360,), [3, 2, 3, 3, 2, 5, 1]),
    ("parts", (1,), [0]),
    ("parts", (0,), [-1]),
    ("coprimes", (360,), [96]),
    ("coprimes", (0,), [0]),
    ("root", (1000, 3), [10]),
    ("root", (GREATEST, 0), [0]),
    ("square", (2, 17), [0, 6]),
    ("square", (3, 17), [-1]),
    ("square", (4, 15), [-2]),
    ("jacobi", (2, 15), [1]),
    ("jacobi", (7, 15), [-1]),
    ("jacobi", (6, 15), [0]),
    ("jacobi", (7, 16), [-2]),
    ("order", (3, 10), [4]),
    ("order", (4, 10), [0]),
    ("rests", ([2, 3, 2], [3, 5, 7]), [0, 23, 105]),
    ("rests", ([], []), [0, 0, 1]),
    ("rests", ([1, 2], [4, 6]), [-1]),
    ("rests", ([1, 2], [0, 3]), [-2]),
)

LOADED = """
import sys
before = set(sys.modules)
import made64.numbers
print(sorted(set(sys.modules) - before))
"""


def refuse(*handed, **named):
    raise AssertionError("the program reads or imports")


class WholeTest(CallTest):

    def check_answer(self, name, handed, expected):
        """Checks the answer, and that what is handed in is left as it was."""
        given = copy.deepcopy(handed)
        self.check(getattr(numbers, name), given, expected)
        self.assertEqual(given, handed, name)

    def test_each_call_is_among_these(self):
        self.assertEqual(len({name for name, handed, expected in ANSWERS}), 12)

    def test_each_answer(self):
        for name, handed, expected in ANSWERS:
            self.check_answer(name, handed, expected)

    def test_each_call_behind_each_other(self):
        for first, second in itertools.product(ANSWERS, repeat=2):
            self.check_answer(*first)
            self.check_answer(*second)

    def test_an_answer_that_is_changed_does_not_come_back(self):
        for name, handed, expected in ANSWERS:
            call = getattr(numbers, name)
            answer = call(*copy.deepcopy(handed))
            answer[0] = 99
            answer.append(7)
            self.check_answer(name, handed, expected)

    def test_a_refusal_is_its_number_alone(self):
        for name, handed, expected in ANSWERS:
            if expected[0] < 0:
                self.assertEqual(len(getattr(numbers, name)(*copy.deepcopy(handed))), 1, name)

    def test_the_module_is_afterwards_what_it_was(self):
        before = {name: copy.deepcopy(value) for name, value in vars(numbers).items() if name[0] != "_"}
        for name, handed, expected in ANSWERS:
            self.check_answer(name, handed, expected)
        after = {name: value for name, value in vars(numbers).items() if name[0] != "_"}
        self.assertEqual(before, after)

    def test_nothing_is_read_or_imported_in_a_call(self):
        for name, handed, expected in ANSWERS:
            call = getattr(numbers, name)
            given = copy.deepcopy(handed)
            with (
                unittest.mock.patch("builtins.open", refuse),
                unittest.mock.patch("builtins.input", refuse),
                unittest.mock.patch("builtins.__import__", refuse),
                unittest.mock.patch("sys.stdin", io.StringIO("99\n")) as handed_over,
            ):
                answer = call(*given)
            self.assertEqual(answer, expected, name)
            self.assertEqual(handed_over.read(), "99\n", name)

    def test_loading_it_loads_and_prints_nothing_else(self):
        top = pathlib.Path(numbers.__file__).parent.parent
        done = subprocess.run([sys.executable, "-B", "-c", LOADED], cwd=top, capture_output=True, text=True, check=True)
        self.assertEqual(done.stdout, "['made64', 'made64.numbers']\n")
        self.assertEqual(done.stderr, "")
