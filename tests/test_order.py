"""Promise 10: order, and 0 as what rests are taken by."""

import math

from checks import BEYOND, GREATEST, GREAT_PRIMES, MIDDLE_PRIMES, CallTest, primes_below, some_numbers
from made64.numbers import order, parts


class OrderTest(CallTest):

    def check_promise(self, a, m):
        """The answer by the words of the promise, for numbers too great to count up."""
        divisor = m or BEYOND
        if math.gcd(a, divisor) != 1:
            self.check(order, (a, m), [0])
            return
        answer = order(a, m)
        self.check_kind(answer, (a, m))
        self.assertEqual(len(answer), 1, (a, m))
        e = answer[0]
        self.assertGreater(e, 0, (a, m))
        self.assertEqual(pow(a, e, divisor), 1 % divisor, (a, m))
        # A lesser one would divide e, and so divide e without one of its primes.
        for p in parts(e)[1::2]:
            self.assertNotEqual(pow(a, e // p, divisor), 1 % divisor, (a, m))

    def test_ordinary_numbers(self):
        self.check(order, (10, 7), [6])
        self.check(order, (2, 7), [3])
        self.check(order, (3, 10), [4])
        self.check(order, (9, 10), [2])
        self.check(order, (7, 360), [12])
        self.check(order, (2, 1000003), [1000002])
        self.check(order, (10, 1000000007), [1000000006])

    def test_by_1(self):
        # By 1 the rest of 1 is 0, as that of each power is.
        for a in (0, 1, 2, 3, 10, BEYOND // 2, GREATEST):
            self.check(order, (a, 1), [1])

    def test_by_2(self):
        for a in (1, 3, 5, 101, BEYOND // 2 + 1, GREATEST):
            self.check(order, (a, 2), [1])
        for a in (0, 2, 4, 100, BEYOND // 2, GREATEST - 1):
            self.check(order, (a, 2), [0])

    def test_small_numbers_by_counting_up(self):
        for m in range(1, 90):
            for a in range(2 * m + 2):
                expected = 0
                rest = 1
                for e in range(1, m + 1):
                    rest = rest * a % m
                    if rest == 1 % m:
                        expected = e
                        break
                self.check(order, (a, m), [expected])

    def test_odd_numbers_by_2_to_the_64th(self):
        self.check(order, (1, 0), [1])
        self.check(order, (3, 0), [4611686018427387904])
        self.check(order, (5, 0), [4611686018427387904])
        self.check(order, (7, 0), [2305843009213693952])
        self.check(order, (GREATEST, 0), [2])
        self.check(order, (BEYOND // 2 - 1, 0), [2])
        self.check(order, (BEYOND // 2 + 1, 0), [2])
        for k in range(2, 64):
            self.check(order, (2 ** k + 1, 0), [2 ** (64 - k)])
            self.check(order, (2 ** k - 1, 0), [2 ** (64 - k)])
        for a in some_numbers(80, 32):
            self.check_promise(a | 1, 0)

    def test_even_numbers_by_2_to_the_64th(self):
        for a in (0, 2, 4, 6, 4294967296, BEYOND // 2, GREATEST - 1):
            self.check(order, (a, 0), [0])

    def test_by_other_powers_of_2(self):
        self.check(order, (3, 4), [2])
        self.check(order, (1, 4), [1])
        for a in (3, 5, 7):
            self.check(order, (a, 8), [2])
        for k in range(3, 64):
            self.check(order, (3, 2 ** k), [2 ** (k - 2)])
            self.check(order, (5, 2 ** k), [2 ** (k - 2)])
            self.check(order, (2 ** k - 1, 2 ** k), [2])
            self.check(order, (2 ** k + 1, 2 ** k), [1])
            self.check(order, (2, 2 ** k), [0])

    def test_a_0(self):
        for m in (0, 2, 3, 4, 97, 4294967291, BEYOND // 2, 18446744073709551557, GREATEST):
            self.check(order, (0, m), [0])

    def test_a_1_and_m_minus_1(self):
        for m in (3, 4, 6, 97, 360, 4294967291, 4294967296, BEYOND // 2, 18446744073709551557, GREATEST - 1, GREATEST):
            self.check(order, (1, m), [1])
            self.check(order, (m - 1, m), [2])
        self.check(order, (1, 0), [1])

    def test_a_equal_to_m_and_above(self):
        for m in (2, 3, 10, 97, 4294967291, BEYOND // 2, GREATEST - 1):
            self.check(order, (m, m), [0])
            self.check(order, (m + 1, m), [1])
        self.check(order, (GREATEST, GREATEST), [0])
        for a, m, expected in ((13, 10, 4), (103, 10, 4), (19, 10, 2), (20, 10, 0), (17, 7, 6), (GREATEST, 7, 1)):
            self.check(order, (a, m), [expected])
        self.check(order, (GREATEST, 4), [2])

    def test_a_divisor_in_common(self):
        for a, m in (
            (2, 4),
            (4, 10),
            (5, 10),
            (6, 9),
            (21, 14),
            (1000, 10),
            (3, GREATEST),
            (6700417, GREATEST),
            (GREATEST, 3),
            (GREATEST - 1, 4294967296),
            (4294967291, 4294967291 * 4294967279),
            (4294967291, 4294967291 * 4294967291),
        ):
            self.check(order, (a, m), [0])

    def test_small_primes(self):
        for p, mark in enumerate(primes_below(400)):
            if mark and p > 2:
                # Of each divisor d of p - 1, just as many numbers have it as are coprime to d below it.
                found = {}
                for a in range(1, p):
                    e = order(a, p)[0]
                    found[e] = found.get(e, 0) + 1
                for e, count in found.items():
                    self.assertEqual((p - 1) % e, 0, p)
                    self.assertEqual(count, sum(1 for x in range(1, e + 1) if math.gcd(x, e) == 1), (e, p))

    def test_great_primes(self):
        self.check(order, (2, 2147483647), [31])
        self.check(order, (2, 2305843009213693951), [61])
        self.check(order, (2, 18446744069414584321), [192])
        self.check(order, (7, 18446744069414584321), [18446744069414584320])
        self.check(order, (3, 4179340454199820289), [4179340454199820288])
        for p in GREAT_PRIMES + (18446744069414584321, 4179340454199820289):
            for a in [2, 3, 5, p - 2, p - 1, GREATEST] + some_numbers(4, 33):
                self.check_promise(a, p)

    def test_powers_of_odd_primes(self):
        # By each of these primes' squares, and so by all its powers, the number is of the greatest order.
        for p, a in ((3, 2), (5, 2), (7, 3), (11, 2), (13, 2), (65521, 17)):
            k = 1
            while p ** k <= GREATEST:
                self.check(order, (a, p ** k), [(p - 1) * p ** (k - 1)])
                self.check(order, (p ** k - 1, p ** k), [2])
                if k > 1:
                    self.check(order, (p + 1, p ** k), [p ** (k - 1)])
                k += 1
        # By these two the order of 2 is the same as by their squares.
        self.check(order, (2, 1093), [364])
        self.check(order, (2, 1093 * 1093), [364])
        self.check(order, (2, 1093 * 1093 * 1093), [364 * 1093])
        self.check(order, (2, 3511), [1755])
        self.check(order, (2, 3511 * 3511), [1755])

    def test_squares_of_great_primes(self):
        for p in (2642239, 4294967279, 4294967291):
            self.check(order, (p + 1, p * p), [p])
            for a in [2, 3, 5, p - 1, p * p - 1, GREATEST] + some_numbers(4, 34):
                self.check_promise(a, p * p)

    def test_products_of_two_great_primes(self):
        for p in MIDDLE_PRIMES[:4] + (2147483647,):
            for q in MIDDLE_PRIMES[:4] + (2147483659,):
                if p < q:
                    for a in (2, 3, p, p - 1, p * q - 1, GREATEST):
                        if a % p != 0 and a % q != 0:
                            expected = math.lcm(order(a, p)[0], order(a, q)[0])
                            self.check(order, (a, p * q), [expected])
                        self.check_promise(a, p * q)

    def test_the_greatest_numbers(self):
        self.check(order, (2, GREATEST), [64])
        self.check(order, (4, GREATEST), [32])
        self.check(order, (4294967296, GREATEST), [2])
        self.check(order, (GREATEST - 1, GREATEST), [2])
        self.check(order, (GREATEST - 2, GREATEST), [64])
        self.check(order, (GREATEST, GREATEST - 1), [1])
        self.check(order, (GREATEST - 2, GREATEST - 1), [2])
        for a in [7, 11, 13, BEYOND // 2] + some_numbers(20, 35):
            for m in (GREATEST, GREATEST - 1, GREATEST - 2, GREATEST - 58):
                self.check_promise(a, m)

    def test_numbers_of_all_lengths(self):
        for a, m in zip(some_numbers(150, 36), reversed(some_numbers(150, 37))):
            self.check_promise(a, m)
            self.check_promise(a | 1, m & (m - 1))

    def test_nothing_is_kept(self):
        self.check_nothing_kept(order, (3, 10), (4, 10))
        self.check_nothing_kept(order, (4, 10), (3, 10))
