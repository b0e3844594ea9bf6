"""What the tests of all calls share."""

import contextlib
import io
import unittest

GREATEST = 18446744073709551615
BEYOND = GREATEST + 1


def some_numbers(count, start=1):
    """Numbers of 1 to 64 bits, spread widely, the same ones each time."""
    found = []
    state = start
    for place in range(count):
        state = (state * 6364136223846793005 + 1442695040888963407) % BEYOND
        mixed = (state ^ (state >> 29)) * 0xBF58476D1CE4E5B9 % BEYOND
        found.append(mixed >> (place * 37 % 64))
    return found


class CallTest(unittest.TestCase):
    """A test of one call: each answer is checked in value and in kind."""

    def check(self, call, handed, expected):
        printed = io.StringIO()
        with contextlib.redirect_stdout(printed), contextlib.redirect_stderr(printed):
            answer = call(*handed)
        told = f"{call.__name__}{handed}"
        self.assertEqual(answer, expected, told)
        self.check_kind(answer, told)
        self.assertEqual(printed.getvalue(), "", told)
        return answer

    def check_kind(self, answer, told):
        self.assertIs(type(answer), list, told)
        for number in answer:
            # True == 1 in Python, so equality alone would let it through.
            self.assertIs(type(number), int, told)

    def check_nothing_kept(self, call, first, second):
        """Each call is as if for the first time, whatever was called or changed before."""
        answer = call(*first)
        expected = list(answer)
        answer.append(7)
        answer[0] = 99
        call(*second)
        self.check(call, first, expected)
