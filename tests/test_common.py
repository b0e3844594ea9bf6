"""Promise 1: common."""

import math

from checks import BEYOND, GREATEST, CallTest, some_numbers
from made64.numbers import common


class CommonTest(CallTest):

    def test_ordinary_numbers(self):
        for a, b, expected in (
            (12, 18, 6),
            (18, 12, 6),
            (35, 64, 1),
            (7, 21, 7),
            (21, 7, 7),
            (1071, 462, 21),
            (4294967296, 6442450944, 2147483648),
            (10000000000000000000, 15000000000000000000, 5000000000000000000),
        ):
            self.check(common, (a, b), [expected])

    def test_small_numbers_by_looking_for_the_divisor(self):
        for a in range(1, 41):
            for b in range(1, 41):
                shared = [d for d in range(1, 41) if a % d == 0 and b % d == 0]
                self.check(common, (a, b), [max(shared)])

    def test_one_number_is_0(self):
        for number in (1, 2, 12, 97, BEYOND // 2, GREATEST - 1, GREATEST):
            self.check(common, (number, 0), [number])
            self.check(common, (0, number), [number])

    def test_both_are_0(self):
        self.check(common, (0, 0), [0])

    def test_one_number_is_1(self):
        for number in (0, 1, 2, 12, BEYOND // 2, GREATEST):
            self.check(common, (number, 1), [1])
            self.check(common, (1, number), [1])

    def test_equal_numbers(self):
        for number in (1, 2, 12, 97, BEYOND // 2, GREATEST - 1, GREATEST):
            self.check(common, (number, number), [number])

    def test_the_greatest_number_on_either_side(self):
        for other, expected in (
            (2, 1),
            (3, 3),
            (10, 5),
            (641, 641),
            (6148914691236517205, 6148914691236517205),
            (BEYOND // 2, 1),
            (4294967295, 4294967295),
            (4294967297 * 2, 4294967297),
            (GREATEST - 1, 1),
            (GREATEST - 3, 3),
        ):
            self.check(common, (GREATEST, other), [expected])
            self.check(common, (other, GREATEST), [expected])

    def test_the_longest_chain_of_rests(self):
        # Two Fibonacci numbers in a row take the most steps that 64 bits allow.
        self.check(common, (12200160415121876738, 7540113804746346429), [1])
        self.check(common, (7540113804746346429, 12200160415121876738), [1])

    def test_numbers_of_all_lengths(self):
        left = some_numbers(400, 1)
        right = some_numbers(400, 2)
        for a, b in zip(left, right):
            self.check(common, (a, b), [math.gcd(a, b)])
            shared = a % 4294967296
            x, y = shared * (b % 65536), shared * (b // 65536 % 65536)
            self.check(common, (x, y), [math.gcd(x, y)])

    def test_nothing_is_kept(self):
        self.check_nothing_kept(common, (12, 18), (GREATEST, 5))
