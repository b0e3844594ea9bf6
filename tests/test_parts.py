"""Promise 5: parts."""

import math

from checks import BEYOND, GREATEST, MIDDLE_PRIMES, TOP_GAPS, CallTest, primes_below, some_numbers
from made64.numbers import parts, prime

FIRST_PRIMES = (2, 3, 5, 7, 11, 13, 17, 19, 23, 29, 31, 37, 41, 43, 47)

# For each power the greatest prime whose power is of 64 bits.
GREATEST_BASES = {
    2: 4294967291,
    3: 2642239,
    4: 65521,
    5: 7129,
    6: 1621,
    7: 563,
    8: 251,
    9: 137,
    10: 83,
    11: 53,
}


def told_of(factors):
    """What parts answers of the product of these primes."""
    told = [len(set(factors))]
    for p in sorted(set(factors)):
        told += [p, factors.count(p)]
    return told


def factors_by_trial(n):
    """The primes that n is the product of, by trying each divisor."""
    factors = []
    divisor = 2
    while divisor * divisor <= n:
        while n % divisor == 0:
            factors.append(divisor)
            n //= divisor
        divisor += 1
    if n > 1:
        factors.append(n)
    return factors


class PartsTest(CallTest):

    def check_product(self, *factors):
        n = math.prod(factors)
        self.assertLessEqual(n, GREATEST)
        self.check(parts, (n,), told_of(factors))

    def check_of_itself(self, n):
        """Where no other source tells the parts: that they are primes, rise, and make up n."""
        told = parts(n)
        self.check_kind(told, f"parts({n})")
        primes, often = told[1::2], told[2::2]
        self.assertEqual(len(told), 1 + 2 * told[0], n)
        self.assertEqual(primes, sorted(set(primes)), n)
        self.assertEqual(math.prod(p ** k for p, k in zip(primes, often)), n)
        for p, k in zip(primes, often):
            self.assertEqual(prime(p), [1], n)
            self.assertGreater(k, 0, n)

    def test_0_is_refused(self):
        self.check(parts, (0,), [-1])

    def test_1_has_none(self):
        self.check(parts, (1,), [0])

    def test_ordinary_numbers(self):
        self.check(parts, (2,), [1, 2, 1])
        self.check(parts, (12,), [2, 2, 2, 3, 1])
        self.check(parts, (97,), [1, 97, 1])
        self.check(parts, (360,), [3, 2, 3, 3, 2, 5, 1])
        self.check(parts, (600851475143,), [4, 71, 1, 839, 1, 1471, 1, 6857, 1])

    def test_each_small_number_by_trying_each_divisor(self):
        for n in range(1, 20000):
            self.check(parts, (n,), told_of(factors_by_trial(n)))

    def test_numbers_of_middle_size_by_trying_each_divisor(self):
        for start in (1000000, 4294967296 - 10):
            for n in range(start, start + 20):
                self.check(parts, (n,), told_of(factors_by_trial(n)))

    def test_great_primes(self):
        for p in MIDDLE_PRIMES + (1000003, 2147483647, 1000000000039, 2305843009213693951, 9223372036854775783):
            self.check_product(p)
        for gap in TOP_GAPS:
            self.check_product(BEYOND - gap)

    def test_powers_of_one_small_prime(self):
        for p in FIRST_PRIMES:
            k = 1
            while p ** k <= GREATEST:
                self.check(parts, (p ** k,), [1, p, k])
                k += 1

    def test_the_greatest_powers_of_2_and_3(self):
        self.check(parts, (9223372036854775808,), [1, 2, 63])
        self.check(parts, (12157665459056928801,), [1, 3, 40])

    def test_the_greatest_power_of_each_height(self):
        for k, p in GREATEST_BASES.items():
            self.check(parts, (p ** k,), [1, p, k])

    def test_squares_cubes_and_fourth_powers_of_all_small_primes(self):
        for p, mark in enumerate(primes_below(2000)):
            if mark:
                self.check_product(p, p)
                self.check_product(p, p, p)
                self.check_product(p, p, p, p)

    def test_squares_and_cubes_of_great_primes(self):
        for p in MIDDLE_PRIMES[:4] + (3037000493, 2147483647, 1000000007, 1048573):
            self.check_product(p, p)
        for p in (2642239, 1299709, 1048573, 1000003):
            self.check_product(p, p, p)

    def test_products_of_two_great_primes_close_to_one_another(self):
        for p in MIDDLE_PRIMES:
            for q in MIDDLE_PRIMES:
                if p < q and p * q <= GREATEST:
                    self.check_product(p, q)
        self.check_product(3037000493, 3037000507)
        self.check_product(2147483629, 2147483647)
        self.check_product(1000000007, 1000000009)

    def test_products_of_two_primes_of_32_bits(self):
        for p in (2147483659, 2500000001, 2863311551, 3221225473, 3500000011, 4294967291):
            for q in (2147483693, 3000000019, 3999999979, 4294967279):
                self.check_product(p, q)

    def test_products_of_two_primes_far_from_one_another(self):
        self.check_product(2, 9223372036854775783)
        self.check_product(3, 6148914691236517199)
        self.check_product(37, 498560650640798671)
        self.check_product(41, 449920587163647553)
        self.check_product(1009, 18282204235589093)
        self.check_product(65537, 281470681808891)
        self.check_product(1048573, 17592236376173)
        self.check_product(16777213, 1099511824357)

    def test_products_that_pass_as_primes_by_many_witnesses(self):
        self.check_product(149491, 747451, 34233211)
        self.check_product(1920767767, 9603838831)
        self.check_product(1452961, 2905921, 4358881)

    def test_products_of_several_primes_of_like_size(self):
        self.check_product(2642239, 2097143, 2097131)
        self.check_product(65521, 65519, 65497, 65479)
        self.check_product(41, 43, 47, 53, 59, 61, 67, 71, 73, 79)
        self.check_product(1009, 1013, 1019, 1021, 1031, 1033)

    def test_products_of_squares(self):
        self.check_product(65521, 65521, 65519, 65519)
        self.check_product(41, 41, 43, 43, 47, 47, 53, 53)
        self.check_product(2, 2, 3, 3, 715827881, 715827881)

    def test_products_of_15_primes(self):
        self.check_product(*FIRST_PRIMES)
        self.check_product(2, 2, 2, 2, *FIRST_PRIMES)
        self.check_product(3, 3, *FIRST_PRIMES)
        self.check_product(*FIRST_PRIMES[:-1], 1409)
        for p in FIRST_PRIMES[:10]:
            self.check_product(p, *FIRST_PRIMES)

    def test_the_greatest_numbers(self):
        self.check(parts, (GREATEST,), [7, 3, 1, 5, 1, 17, 1, 257, 1, 641, 1, 65537, 1, 6700417, 1])
        self.check(parts, (GREATEST - 1,), [7, 2, 1, 7, 2, 73, 1, 127, 1, 337, 1, 92737, 1, 649657, 1])
        self.check(parts, (GREATEST - 2,), [3, 13, 1, 3889, 1, 364870227143809, 1])
        for n in range(GREATEST - 60, GREATEST + 1):
            self.check_of_itself(n)

    def test_numbers_of_all_lengths(self):
        for n in some_numbers(600, 11):
            if n > 0:
                self.check_of_itself(n)

    def test_nothing_is_kept(self):
        self.check_nothing_kept(parts, (360,), (97,))
        self.check_nothing_kept(parts, (4294967279 * 4294967291,), (4294967291,))
        self.check_nothing_kept(parts, (0,), (1,))
