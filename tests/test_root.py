"""Promise 7: root."""

import math

from checks import BEYOND, GREATEST, CallTest, some_numbers
from made64.numbers import root

GREATEST_K = 4294967295

# The greatest root that a number of 64 bits has, for each k.
TOP_ROOTS = {
    1: 18446744073709551615,
    2: 4294967295,
    3: 2642245,
    4: 65535,
    5: 7131,
    6: 1625,
    7: 565,
    8: 255,
    9: 138,
    10: 84,
    11: 56,
    12: 40,
    13: 30,
    15: 19,
    16: 15,
    20: 9,
    31: 4,
    32: 3,
    40: 3,
    41: 2,
    62: 2,
    63: 2,
    64: 1,
    65: 1,
    GREATEST_K: 1,
}


class RootTest(CallTest):

    def check_bounds(self, n, k):
        """That the answer's power is n at most, and that of the number one above it is more."""
        answer = root(n, k)
        told = f"root({n}, {k})"
        self.check_kind(answer, told)
        self.assertEqual(len(answer), 1, told)
        self.assertGreaterEqual(answer[0], 0, told)
        self.assertLessEqual(answer[0] ** k, n, told)
        self.assertGreater((answer[0] + 1) ** k, n, told)

    def test_k_0_gives_0(self):
        for n in (0, 1, 2, 10, 4294967296, GREATEST):
            self.check(root, (n, 0), [0])

    def test_k_1_gives_n(self):
        for n in [0, 1, 2, 3, 10, 4294967295, 4294967296, GREATEST - 1, GREATEST] + some_numbers(60, 13):
            self.check(root, (n, 1), [n])

    def test_n_0_gives_0(self):
        for k in (1, 2, 3, 10, 63, 64, 65, 1000, GREATEST_K - 1, GREATEST_K):
            self.check(root, (0, k), [0])

    def test_n_1_gives_1(self):
        for k in (1, 2, 3, 10, 63, 64, 65, 1000, GREATEST_K - 1, GREATEST_K):
            self.check(root, (1, k), [1])

    def test_ordinary_roots(self):
        self.check(root, (2, 2), [1])
        self.check(root, (3, 2), [1])
        self.check(root, (10, 2), [3])
        self.check(root, (99, 2), [9])
        self.check(root, (1000, 3), [10])
        self.check(root, (1000000, 6), [10])
        self.check(root, (2000000, 5), [18])

    def test_small_numbers_by_counting_up(self):
        for k in range(1, 12):
            expected = 0
            for n in range(600):
                while (expected + 1) ** k <= n:
                    expected += 1
                self.check(root, (n, k), [expected])

    def test_powers_one_less_and_one_more(self):
        for k in range(2, 64):
            for base in (2, 3, 4, 5, 7, 10, 15, 16, 100, 255, 256, 1625, 65535, 65536, 2642245, 3037000499, 4294967295):
                if base ** k < GREATEST:
                    self.check(root, (base ** k - 1, k), [base - 1])
                    self.check(root, (base ** k, k), [base])
                    self.check(root, (base ** k + 1, k), [base])

    def test_squares_of_all_lengths(self):
        for number in some_numbers(200, 14):
            base = number % 4294967296
            if base > 1:
                self.check(root, (base * base - 1, 2), [base - 1])
                self.check(root, (base * base, 2), [base])
                self.check(root, (base * base + 2 * base, 2), [base])

    def test_square_roots_of_all_lengths(self):
        for n in some_numbers(400, 15):
            self.check(root, (n, 2), [math.isqrt(n)])

    def test_roots_of_the_greatest_numbers(self):
        for k, expected in TOP_ROOTS.items():
            self.check(root, (GREATEST, k), [expected])
        for k in (2, 3, 63, 64, 65):
            self.check(root, (GREATEST - 1, k), [TOP_ROOTS[k]])

    def test_the_greatest_power_of_each_k(self):
        for k, base in TOP_ROOTS.items():
            if 1 < k < 64:
                self.assertGreaterEqual((base + 1) ** k, BEYOND)
                self.check(root, (base ** k, k), [base])
                self.check(root, (base ** k - 1, k), [base - 1])

    def test_powers_of_2_where_k_is_about_as_great(self):
        for k in range(1, 64):
            self.check(root, (2 ** k, k), [2])
            self.check(root, (2 ** k - 1, k), [1])
            self.check(root, (2 ** k, k + 1), [1])
        self.check(root, (9223372036854775807, 63), [1])
        self.check(root, (9223372036854775808, 63), [2])
        self.check(root, (9223372036854775808, 64), [1])

    def test_great_k(self):
        for k in (64, 65, 127, 128, 1000, 65536, 2147483648, 4294967294, GREATEST_K):
            for n in (1, 2, 3, 4294967296, 9223372036854775808, GREATEST - 1, GREATEST):
                self.check(root, (n, k), [1])

    def test_the_answer_s_power_and_that_of_the_number_above_it(self):
        for place, n in enumerate(some_numbers(600, 16)):
            self.check_bounds(n, 1 + place * 5 % 70)
        for k in range(1, 70):
            for n in range(GREATEST - 3, GREATEST + 1):
                self.check_bounds(n, k)

    def test_nothing_is_kept(self):
        self.check_nothing_kept(root, (1000, 3), (80, 2))
        self.check_nothing_kept(root, (1000, 0), (80, 2))
