"""Promise 3: inverse, and 0 as what rests are taken by."""

import math

from checks import BEYOND, GREATEST, CallTest, some_numbers
from made64.numbers import inverse


class InverseTest(CallTest):

    def check_promise(self, a, m):
        """The answer by the words of the promise, for numbers too great to try each one."""
        divisor = m or BEYOND
        if math.gcd(a, divisor) == 1:
            answer = self.check(inverse, (a, m), [0, pow(a, -1, divisor)])
            self.assertTrue(0 <= answer[1] < divisor, (a, m))
            self.assertEqual(a * answer[1] % divisor, 1 % divisor, (a, m))
        else:
            self.check(inverse, (a, m), [-1])

    def test_ordinary_numbers_with_an_inverse(self):
        for a, m, expected in (
            (3, 10, 7),
            (7, 10, 3),
            (9, 10, 9),
            (1, 10, 1),
            (2, 7, 4),
            (3, 11, 4),
            (17, 3120, 2753),
            (1, 2, 1),
            (10, 1000000007, 700000005),
        ):
            self.check(inverse, (a, m), [0, expected])

    def test_ordinary_numbers_without_one(self):
        for a, m in ((2, 4), (4, 10), (5, 10), (6, 9), (21, 14), (2, 2), (1000, 10), (35, 1000000005)):
            self.check(inverse, (a, m), [-1])

    def test_small_numbers_by_trying_each(self):
        for m in range(1, 41):
            for a in range(81):
                found = [x for x in range(m) if a * x % m == 1 % m]
                self.assertLessEqual(len(found), 1)
                self.check(inverse, (a, m), [0] + found if found else [-1])

    def test_0_has_none(self):
        for m in (0, 2, 3, 97, BEYOND // 2, GREATEST):
            self.check(inverse, (0, m), [-1])

    def test_by_1_each_number_has_0(self):
        # By 1 the rest of 1 is 0, as that of each product is.
        for a in (0, 1, 2, 3, BEYOND // 2, GREATEST):
            self.check(inverse, (a, 1), [0, 0])

    def test_odd_numbers_by_2_to_the_64th(self):
        for a, expected in (
            (1, 1),
            (3, 12297829382473034411),
            (5, 14757395258967641293),
            (GREATEST, GREATEST),
            (BEYOND // 2 - 1, BEYOND // 2 - 1),
            (BEYOND // 2 + 1, BEYOND // 2 + 1),
            (4294967297, 18446744069414584321),
        ):
            self.check(inverse, (a, 0), [0, expected])
            self.check_promise(a, 0)

    def test_even_numbers_by_2_to_the_64th(self):
        for a in (0, 2, 4, 6, 4294967296, BEYOND // 2, GREATEST - 1):
            self.check(inverse, (a, 0), [-1])

    def test_a_below_equal_to_and_above_m(self):
        for m in (2, 3, 10, 97, 4294967291, BEYOND // 2, GREATEST - 1):
            self.check(inverse, (m - 1, m), [0, m - 1])
            self.check(inverse, (m, m), [-1])
            self.check(inverse, (m + 1, m), [0, 1])
        for a, m, expected in ((13, 10, 7), (103, 10, 7), (GREATEST, 7, 1), (GREATEST, 4, 3)):
            self.check(inverse, (a, m), [0, expected])
        for a, m in ((14, 10), (20, 10), (GREATEST, 10), (GREATEST - 1, 2)):
            self.check(inverse, (a, m), [-1])

    def test_the_greatest_numbers(self):
        self.check(inverse, (GREATEST, GREATEST), [-1])
        self.check(inverse, (3, GREATEST), [-1])
        self.check(inverse, (1, GREATEST), [0, 1])
        self.check(inverse, (2, GREATEST), [0, BEYOND // 2])
        self.check(inverse, (BEYOND // 2, GREATEST), [0, 2])
        self.check(inverse, (GREATEST - 1, GREATEST), [0, GREATEST - 1])
        self.check(inverse, (GREATEST, GREATEST - 1), [0, 1])
        self.check(inverse, (GREATEST, GREATEST - 2), [0, BEYOND // 2 - 1])
        self.check(inverse, (2, 18446744073709551557), [0, 9223372036854775779])

    def test_the_longest_chain_of_rests(self):
        # Two Fibonacci numbers in a row take the most steps that 64 bits allow.
        self.check_promise(7540113804746346429, 12200160415121876738)
        self.check_promise(12200160415121876738, 7540113804746346429)

    def test_numbers_of_all_lengths(self):
        for a, m in zip(some_numbers(500, 6), reversed(some_numbers(500, 7))):
            self.check_promise(a, m)
            self.check_promise(a, 0)
            self.check_promise(a, GREATEST)
            self.check_promise(a, 18446744073709551557)
            self.check_promise(GREATEST - a, m)

    def test_nothing_is_kept(self):
        self.check_nothing_kept(inverse, (3, 10), (4, 10))
        self.check_nothing_kept(inverse, (4, 10), (3, 10))
