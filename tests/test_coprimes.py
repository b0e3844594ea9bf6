"""Promise 6: coprimes."""

import math

from checks import BEYOND, GREATEST, MIDDLE_PRIMES, TOP_GAPS, CallTest, primes_below, some_numbers
from made64.numbers import coprimes, parts


class CoprimesTest(CallTest):

    def check_product(self, *factors):
        """Primes that differ: each takes its own multiples away."""
        self.check(coprimes, (math.prod(factors),), [math.prod(p - 1 for p in factors)])

    def check_power(self, p, k):
        self.check(coprimes, (p ** k,), [p ** k - p ** (k - 1)])

    def test_0_1_and_2(self):
        self.check(coprimes, (0,), [0])
        self.check(coprimes, (1,), [1])
        self.check(coprimes, (2,), [1])

    def test_ordinary_numbers(self):
        self.check(coprimes, (9,), [6])
        self.check(coprimes, (10,), [4])
        self.check(coprimes, (12,), [4])
        self.check(coprimes, (36,), [12])
        self.check(coprimes, (360,), [96])
        self.check(coprimes, (1000000,), [400000])

    def test_small_numbers_by_counting(self):
        for n in range(700):
            count = sum(1 for x in range(1, n + 1) if math.gcd(x, n) == 1)
            self.check(coprimes, (n,), [count])

    def test_further_numbers_by_counting(self):
        for n in (30030, 32768, 59049, 65535, 65536, 65537, 99999, 100000):
            count = sum(1 for x in range(1, n + 1) if math.gcd(x, n) == 1)
            self.check(coprimes, (n,), [count])

    def test_the_counts_of_all_divisors_add_up_to_the_number(self):
        for n in (1, 97, 5040, 83160, 1000000, 999999):
            divisors = [d for d in range(1, n + 1) if n % d == 0]
            self.assertEqual(sum(coprimes(d)[0] for d in divisors), n)

    def test_small_primes(self):
        for p, mark in enumerate(primes_below(2000)):
            if mark:
                self.check(coprimes, (p,), [p - 1])

    def test_great_primes(self):
        for p in MIDDLE_PRIMES + (2147483647, 1000000000039, 2305843009213693951, 9223372036854775783):
            self.check(coprimes, (p,), [p - 1])
        for gap in TOP_GAPS:
            self.check(coprimes, (BEYOND - gap,), [BEYOND - gap - 1])

    def test_powers_of_small_primes(self):
        for p in (2, 3, 5, 7, 11, 41, 251):
            k = 1
            while p ** k <= GREATEST:
                self.check_power(p, k)
                k += 1
        self.check(coprimes, (9223372036854775808,), [4611686018427387904])

    def test_powers_of_great_primes(self):
        self.check_power(65521, 4)
        self.check_power(2642239, 3)
        self.check_power(4294967279, 2)
        self.check_power(4294967291, 2)

    def test_products_of_two_great_primes(self):
        for p in MIDDLE_PRIMES:
            for q in MIDDLE_PRIMES:
                if p < q and p * q <= GREATEST:
                    self.check_product(p, q)
        self.check_product(2147483659, 4294967279)
        self.check_product(3, 6148914691236517199)
        self.check_product(2, 9223372036854775783)

    def test_products_of_many_primes(self):
        self.check_product(2, 3, 5, 7, 11, 13, 17, 19, 23, 29, 31, 37, 41, 43, 47)
        self.check_product(41, 43, 47, 53, 59, 61, 67, 71, 73, 79)
        # Primes that come more often, beside others.
        self.check(coprimes, (65521 ** 2 * 65519 ** 2,), [65521 * 65520 * 65519 * 65518])
        self.check(coprimes, (2 ** 30 * 3 ** 20,), [2 ** 29 * 2 * 3 ** 19])

    def test_the_greatest_prime_and_the_greatest_numbers(self):
        self.check(coprimes, (18446744073709551557,), [18446744073709551556])
        self.check_product(3, 5, 17, 257, 641, 65537, 6700417)
        self.check(coprimes, (GREATEST,), [2 * 4 * 16 * 256 * 640 * 65536 * 6700416])
        self.check(coprimes, (GREATEST - 1,), [6 * 7 * 72 * 126 * 336 * 92736 * 649656])

    def test_numbers_of_all_lengths_by_their_parts(self):
        for n in some_numbers(300, 12):
            if n > 0:
                told = parts(n)
                pairs = zip(told[1::2], told[2::2])
                self.check(coprimes, (n,), [math.prod(p ** k - p ** (k - 1) for p, k in pairs)])

    def test_nothing_is_kept(self):
        self.check_nothing_kept(coprimes, (360,), (97,))
        self.check_nothing_kept(coprimes, (0,), (1,))
