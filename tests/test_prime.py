"""Promise 4, its first sentence: prime."""

import math

from checks import BEYOND, GREATEST, MIDDLE_PRIMES, TOP_GAPS, CallTest, primes_below, some_numbers
from made64.numbers import prime


class PrimeTest(CallTest):

    def check_product(self, *factors):
        self.check(prime, (math.prod(factors),), [0])

    def test_0_1_and_2(self):
        self.check(prime, (0,), [0])
        self.check(prime, (1,), [0])
        self.check(prime, (2,), [1])

    def test_small_primes(self):
        for n in (3, 5, 7, 11, 13, 17, 19, 23, 29, 31, 37, 41, 43, 47, 97, 101, 7919, 65537):
            self.check(prime, (n,), [1])

    def test_small_products(self):
        for n in (4, 6, 8, 9, 10, 12, 15, 21, 25, 27, 35, 49, 51, 91, 1001, 65535, 65536, 39 * 41):
            self.check(prime, (n,), [0])

    def test_each_number_by_striking_out_multiples(self):
        for n, mark in enumerate(primes_below(30000)):
            self.check(prime, (n,), [1 if mark else 0])

    def test_numbers_of_middle_size_by_trying_each_divisor(self):
        divisors = [d for d, mark in enumerate(primes_below(70000)) if mark]
        for start in (1000000, 4294967296 - 110):
            for n in range(start, start + 220):
                found = any(n % d == 0 for d in divisors if d * d <= n)
                self.check(prime, (n,), [0 if found else 1])

    def test_ordinary_primes(self):
        for n in (
            1000003,
            1000000007,
            2147483647,
            1000000000039,
            67280421310721,
            999999999999989,
            2305843009213693951,
            1000000000000000003,
            9223372036854775783,
        ):
            self.check(prime, (n,), [1])

    def test_squares_and_higher_powers_of_primes(self):
        for p, mark in enumerate(primes_below(2000)):
            if mark:
                self.check_product(p, p)
                self.check_product(p, p, p)
        for p in MIDDLE_PRIMES[:4]:
            self.check_product(p, p)
        self.check_product(2642239, 2642239, 2642239)
        self.check_product(65521, 65521, 65521, 65521)

    def test_squares_that_pass_by_2(self):
        self.check_product(1093, 1093)
        self.check_product(3511, 3511)

    def test_products_that_pass_by_the_first_primes(self):
        # The least that pass the strong test by the first 1, 2, 3, 4, 5, 6, 8 and 11 primes.
        self.check_product(23, 89)
        self.check_product(829, 1657)
        self.check_product(2251, 11251)
        self.check_product(151, 751, 28351)
        self.check_product(6763, 10627, 29947)
        self.check_product(1303, 16927, 157543)
        self.check_product(10670053, 32010157)
        self.check_product(149491, 747451, 34233211)

    def test_products_that_pass_by_other_well_chosen_numbers(self):
        # By 2, 7, 61; by 2, 13, 23, 1662803; by 2, close to 2 to the 64th;
        # by seven or eight of the first twelve primes.
        self.check_product(48781, 97561)
        self.check_product(611557, 1834669)
        self.check_product(1920767767, 9603838831)
        self.check_product(3036978661, 6073957321)
        self.check_product(3036904711, 6073809421)
        self.check_product(3036813457, 6073626913)
        self.check_product(3036811891, 6073623781)

    def test_products_that_pass_the_plain_test(self):
        # Fermat's test, by each number that has no divisor in common with them.
        for n in (561, 1105, 1729, 2465, 2821, 6601, 8911, 10585, 15841, 29341, 41041, 825265, 321197185):
            self.check(prime, (n,), [0])
        self.check_product(1452961, 2905921, 4358881)
        self.check_product(1451521, 2903041, 4354561)
        self.check_product(1450927, 2901853, 4352779)

    def test_products_that_pass_by_rows_like_fibonacci_s(self):
        for n in (323, 377, 1159, 1829, 3827, 5459, 5777, 10877, 16109, 18971, 22499, 24569):
            self.check(prime, (n,), [0])

    def test_products_of_two_great_primes(self):
        for p in MIDDLE_PRIMES:
            self.check(prime, (p,), [1])
            for q in MIDDLE_PRIMES:
                if p * q <= GREATEST:
                    self.check_product(p, q)
        self.check(prime, (6148914691236517199,), [1])
        self.check_product(3, 6148914691236517199)
        self.check_product(2, 9223372036854775783)

    def test_each_of_the_greatest_numbers(self):
        for gap in range(1, 401):
            self.check(prime, (BEYOND - gap,), [1 if gap in TOP_GAPS else 0])

    def test_the_greatest_prime_and_the_greatest_number(self):
        self.check(prime, (18446744073709551557,), [1])
        self.check(prime, (GREATEST,), [0])

    def test_products_of_all_lengths(self):
        for a, b in zip(some_numbers(400, 8), reversed(some_numbers(400, 9))):
            x, y = a % 4294967296, b % 4294967296
            if x > 1 and y > 1:
                self.check_product(x, y)

    def test_nothing_is_kept(self):
        self.check_nothing_kept(prime, (97,), (91,))
        self.check_nothing_kept(prime, (91,), (97,))
