"""Promise 9: jacobi."""

import math

from checks import BEYOND, GREATEST, GREAT_PRIMES, MIDDLE_PRIMES, CallTest, primes_below, some_numbers
from made64.numbers import jacobi, parts


def by_squares(a, p):
    """One prime's share by the words: 0, 1 or -1."""
    if a % p == 0:
        return 0
    if any(x * x % p == a % p for x in range(p)):
        return 1
    return -1


def by_power(a, p):
    """One prime's share by Euler's rule, for primes too great to try each square."""
    rest = pow(a, (p - 1) // 2, p)
    return -1 if rest == p - 1 else rest


def primes_of(n):
    """The primes that n is the product of, each as often as it's there, by trying each."""
    found = []
    p = 2
    while n > 1:
        while n % p == 0:
            found.append(p)
            n //= p
        p += 1
    return found


class JacobiTest(CallTest):

    def test_ordinary_numbers(self):
        self.check(jacobi, (2, 7), [1])
        self.check(jacobi, (3, 7), [-1])
        self.check(jacobi, (14, 7), [0])
        self.check(jacobi, (2, 15), [1])
        self.check(jacobi, (7, 15), [-1])
        self.check(jacobi, (5, 21), [1])
        self.check(jacobi, (1001, 9907), [-1])
        self.check(jacobi, (19, 45), [1])
        self.check(jacobi, (8, 21), [-1])

    def test_even_numbers_are_refused(self):
        for n in (0, 2, 4, 6, 8, 10, 100, 1000, 4294967296, BEYOND // 2, GREATEST - 3, GREATEST - 1):
            for a in (0, 1, 2, 3, 5, 6, n, n + 1, GREATEST):
                self.check(jacobi, (a, n), [-2])

    def test_by_1(self):
        for a in (0, 1, 2, 3, 4, 5, 4294967296, BEYOND // 2, GREATEST - 1, GREATEST):
            self.check(jacobi, (a, 1), [1])

    def test_a_0(self):
        for n in (3, 5, 7, 9, 15, 25, 4294967291, 18446744073709551557, GREATEST - 2, GREATEST):
            self.check(jacobi, (0, n), [0])

    def test_a_1_and_squares(self):
        for n in (3, 5, 7, 9, 11, 15, 35, 4294967291, 18446744073709551557, GREATEST):
            self.check(jacobi, (1, n), [1])
            self.check(jacobi, (4, n), [1])
            self.check(jacobi, (1024, n), [1])
            self.check(jacobi, (4294967296 ** 2 // 4, n), [1])

    def test_a_prime_in_common(self):
        for a, n in (
            (3, 3),
            (3, 9),
            (6, 9),
            (3, 15),
            (5, 15),
            (10, 15),
            (30, 15),
            (21, 35),
            (4294967291, 4294967291 * 3),
            (4294967291 * 2, 4294967291 * 4294967279),
            (3, GREATEST),
            (6700417, GREATEST),
            (GREATEST, 3),
            (GREATEST, 641),
            (GREATEST, 65537 * 7),
        ):
            self.check(jacobi, (a, n), [0])

    def test_small_primes_by_trying_each_square(self):
        for p, mark in enumerate(primes_below(120)):
            if mark and p > 2:
                for a in range(2 * p + 2):
                    self.check(jacobi, (a, p), [by_squares(a, p)])

    def test_small_odd_numbers_by_their_primes(self):
        shares = {}
        for n in range(1, 260, 2):
            primes = primes_of(n)
            for a in range(2 * n + 2):
                expected = 1
                for p in primes:
                    if (a % p, p) not in shares:
                        shares[(a % p, p)] = by_squares(a, p)
                    expected *= shares[(a % p, p)]
                self.check(jacobi, (a, n), [expected])

    def test_great_primes(self):
        for p in GREAT_PRIMES:
            for a in [0, 1, 2, 3, 5, p - 2, p - 1, p, GREATEST - 1, GREATEST] + some_numbers(40, 24):
                self.check(jacobi, (a, p), [by_power(a, p)])

    def test_squares_and_other_powers(self):
        for p in (3, 5, 7, 11, 65521, 4294967279, 4294967291):
            k = 2
            while p ** k <= GREATEST:
                for a in [0, 1, 2, 3, p - 1, p, p + 1, 2 * p, p * p] + some_numbers(8, 25):
                    self.check(jacobi, (a, p ** k), [by_power(a, p) ** k])
                k += 1

    def test_products_of_two_great_primes(self):
        for p in MIDDLE_PRIMES + (3, 5, 7):
            for q in MIDDLE_PRIMES + (2147483647, 2147483659):
                if p != q and p * q <= GREATEST:
                    for a in [2, 3, p, q, 2 * p, p - 1, q - 1, p * q - 1, GREATEST] + some_numbers(12, 26):
                        self.check(jacobi, (a, p * q), [by_power(a, p) * by_power(a, q)])

    def test_1_is_told_of_numbers_that_are_no_squares(self):
        # By 3 and by 5 alike, 2 and 8 are none: the product counts.
        self.check(jacobi, (2, 15), [1])
        self.check(jacobi, (8, 15), [1])
        self.check(jacobi, (2, 9), [1])
        self.check(jacobi, (5, 9), [1])

    def test_2_and_n_minus_1_by_each_rest_by_8(self):
        for n in (
            [9, 3, 5, 7, 17, 11, 13, 15, 1001, 1003, 1005, 1007, 4294967297, 4294967291, 4294967293, 4294967295]
            + [GREATEST - 6, GREATEST - 4, GREATEST - 2, GREATEST, BEYOND // 2 + 1, BEYOND // 2 + 3]
            + [number | 1 for number in some_numbers(60, 27)]
        ):
            if n > 1:
                of_2 = {1: 1, 3: -1, 5: -1, 7: 1}[n % 8]
                of_last = {1: 1, 3: -1, 5: 1, 7: -1}[n % 8]
                self.check(jacobi, (2, n), [of_2])
                self.check(jacobi, (8, n), [of_2])
                self.check(jacobi, (n - 1, n), [of_last])
                if n > 3:
                    self.check(jacobi, (n - 2, n), [of_2 * of_last])

    def test_a_above_n(self):
        for n in (3, 5, 7, 9, 15, 21, 45, 1001, 65537, 4294967291, BEYOND // 2 + 1):
            for a in [1, 2, 3, 4, n - 1]:
                for above in (a + n, a + 2 * n, a + (GREATEST - a) // n * n):
                    if above <= GREATEST:
                        self.check(jacobi, (above, n), jacobi(a, n))
        self.check(jacobi, (9, 7), [1])
        self.check(jacobi, (10, 7), [-1])
        self.check(jacobi, (GREATEST, 7), [1])
        self.check(jacobi, (GREATEST - 1, 11), [by_power(GREATEST - 1, 11)])

    def test_the_greatest_numbers(self):
        self.check(jacobi, (GREATEST, GREATEST), [0])
        self.check(jacobi, (GREATEST - 1, GREATEST), [-1])
        self.check(jacobi, (2, GREATEST), [1])
        self.check(jacobi, (GREATEST, GREATEST - 2), [-1])
        self.check(jacobi, (GREATEST - 1, GREATEST - 2), [1])
        self.check(jacobi, (GREATEST, 18446744073709551557), [by_power(58, 18446744073709551557)])
        primes = (3, 5, 17, 257, 641, 65537, 6700417)
        self.assertEqual(math.prod(primes), GREATEST)
        for a in [7, 11, 13, GREATEST - 2, GREATEST - 4, GREATEST - 8] + some_numbers(60, 28):
            self.check(jacobi, (a, GREATEST), [math.prod(by_power(a, p) for p in primes)])

    def test_numbers_of_all_lengths_by_their_parts(self):
        for number, far in zip(some_numbers(250, 29), reversed(some_numbers(250, 30))):
            n = number | 1
            told = parts(n)
            for a in (far, GREATEST - far, far % n):
                pairs = zip(told[1::2], told[2::2])
                self.check(jacobi, (a, n), [math.prod(by_power(a, p) ** k for p, k in pairs)])

    def test_the_longest_chain_of_rests(self):
        # Two Fibonacci numbers in a row take the most steps for their length.
        low, high = 1, 1
        while high <= GREATEST:
            if high % 2 == 1:
                told = parts(high)
                pairs = zip(told[1::2], told[2::2])
                self.check(jacobi, (low, high), [math.prod(by_power(low, p) ** k for p, k in pairs)])
            low, high = high, low + high

    def test_nothing_is_kept(self):
        self.check_nothing_kept(jacobi, (3, 7), (2, 7))
        self.check_nothing_kept(jacobi, (2, 7), (2, 8))
        self.check_nothing_kept(jacobi, (2, 8), (3, 7))
