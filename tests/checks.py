"""What the tests of all calls share."""

import contextlib
import io
import math
import unittest

GREATEST = 18446744073709551615
BEYOND = GREATEST + 1

# How far below 2 to the 64th the ten greatest primes of 64 bits lie.
TOP_GAPS = (59, 83, 95, 179, 189, 257, 279, 323, 353, 363)

# The four greatest primes of 32 bits, and the least above them.
MIDDLE_PRIMES = (4294967197, 4294967231, 4294967279, 4294967291, 4294967311)

# Primes too great to try each number below them.
GREAT_PRIMES = MIDDLE_PRIMES + (2305843009213693951, 9223372036854775783) + tuple(BEYOND - gap for gap in TOP_GAPS)


def primes_below(limit):
    """Told by striking out multiples: True at each prime."""
    marks = [False, False] + [True] * (limit - 2)
    for number in range(2, math.isqrt(limit) + 1):
        if marks[number]:
            for multiple in range(number * number, limit, number):
                marks[multiple] = False
    return marks


def some_numbers(count, start=1):
    """Numbers of 1 to 64 bits, spread widely, the same ones each time."""
    found = []
    state = start
    for place in range(count):
        state = (state * 6364136223846793005 + 1442695040888963407) % BEYOND
        mixed = (state ^ (state >> 29)) * 0xBF58476D1CE4E5B9 % BEYOND
        found.append(mixed >> (place * 37 % 64))
    return found


class CallTest(unittest.TestCase):
    """A test of one call: each answer is checked in value and in kind."""

    def check(self, call, handed, expected):
        printed = io.StringIO()
        with contextlib.redirect_stdout(printed), contextlib.redirect_stderr(printed):
            answer = call(*handed)
        told = f"{call.__name__}{handed}"
        self.assertEqual(answer, expected, told)
        self.check_kind(answer, told)
        self.assertEqual(printed.getvalue(), "", told)
        return answer

    def check_kind(self, answer, told):
        self.assertIs(type(answer), list, told)
        for number in answer:
            # True == 1 in Python, so equality alone would let it through.
            self.assertIs(type(number), int, told)

    def check_nothing_kept(self, call, first, second):
        """Each call is as if for the first time, whatever was called or changed before."""
        answer = call(*first)
        expected = list(answer)
        answer.append(7)
        answer[0] = 99
        call(*second)
        self.check(call, first, expected)
