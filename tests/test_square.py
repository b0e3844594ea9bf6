"""Promise 8: square."""

from checks import BEYOND, GREATEST, GREAT_PRIMES, CallTest, primes_below, some_numbers
from made64.numbers import square

# Great powers of 2 divide each of these primes less 1: the 57th the first, the 8th the last.
PRIMES_WITH_MANY_TWOS = (
    4179340454199820289,
    1945555039024054273,
    180143985094819841,
    18446744069414584321,
    3221225473,
    2013265921,
    469762049,
    167772161,
    998244353,
    65537,
    12289,
    257,
)

# By each of these primes, all numbers above 0 and below the one beside it have the rests of squares.
PRIMES_WITH_MANY_SQUARES = {3818929: 47, 48473881: 67, 427733329: 79, 23616331489: 107, 196265095009: 131}


class SquareTest(CallTest):

    def check_root(self, x, p):
        """That of a number's square the number is told, or the other one with this square if that's less."""
        x = x % p
        answer = self.check(square, (x * x % p, p), [0, min(x, (p - x) % p)])
        self.assertEqual(answer[1] * answer[1] % p, x * x % p)

    def check_number(self, a, p):
        """That a number is told just where there is one, by Euler's rule: a is 0 or a square if this power is 1."""
        if a % p != 0 and pow(a, (p - 1) // 2, p) != 1:
            self.check(square, (a, p), [-1])
            return
        answer = square(a, p)
        self.check(square, (a, p), [0, answer[-1]])
        self.assertEqual(answer[1] * answer[1] % p, a % p, (a, p))
        # The other root is p - x, so the least one is p // 2 at most.
        self.assertTrue(0 <= answer[1] <= p // 2, (a, p))

    def test_ordinary_numbers(self):
        self.check(square, (2, 7), [0, 3])
        self.check(square, (4, 7), [0, 2])
        self.check(square, (3, 7), [-1])
        self.check(square, (10, 13), [0, 6])
        self.check(square, (5, 13), [-1])
        self.check(square, (2, 17), [0, 6])
        self.check(square, (3, 17), [-1])
        self.check(square, (2, 41), [0, 17])
        self.check(square, (5, 1000003), [-1])

    def test_0_and_1_are_no_primes(self):
        for a in (0, 1, 2, 3, 4, 9, 4294967296, GREATEST):
            self.check(square, (a, 0), [-2])
            self.check(square, (a, 1), [-2])

    def test_products_are_no_primes(self):
        for p in (4, 6, 8, 9, 15, 21, 25, 49, 91, 561, 1105, 3215031751, 3825123056546413051):
            for a in (0, 1, 2, 3, 4, 5, 9, p - 1, p, p + 1, GREATEST):
                self.check(square, (a, p), [-2])

    def test_great_products_are_no_primes(self):
        for p in (
            4294967291 * 4294967279,
            4294967291 * 4294967291,
            4294967296,
            BEYOND // 2,
            GREATEST - 60,
            GREATEST - 2,
            GREATEST - 1,
            GREATEST,
        ):
            for a in (0, 1, 4, 5, p - 1, p, GREATEST):
                self.check(square, (a, p), [-2])

    def test_each_small_number_is_a_prime_or_refused(self):
        for p, mark in enumerate(primes_below(1000)):
            self.check(square, (1, p), [0, 1] if mark else [-2])
            self.check(square, (0, p), [0, 0] if mark else [-2])

    def test_by_2(self):
        for a in (0, 2, 4, 6, 100, BEYOND // 2, GREATEST - 1):
            self.check(square, (a, 2), [0, 0])
        for a in (1, 3, 5, 7, 101, BEYOND // 2 + 1, GREATEST):
            self.check(square, (a, 2), [0, 1])

    def test_by_3(self):
        for a, expected in ((0, [0, 0]), (1, [0, 1]), (2, [-1]), (3, [0, 0]), (4, [0, 1]), (5, [-1])):
            self.check(square, (a, 3), expected)
        self.check(square, (GREATEST, 3), [0, 0])
        self.check(square, (GREATEST - 1, 3), [-1])
        self.check(square, (GREATEST - 2, 3), [0, 1])

    def test_0_and_multiples_of_p(self):
        for p in (2, 3, 5, 17, 97, 65537, 4294967291, 9223372036854775783, 18446744073709551557):
            for a in (0, p, 2 * p, 3 * p, GREATEST - GREATEST % p):
                if a <= GREATEST:
                    self.check(square, (a, p), [0, 0])

    def test_a_above_p(self):
        self.check(square, (9, 7), [0, 3])
        self.check(square, (10, 7), [-1])
        self.check(square, (100, 13), [0, 3])
        for p in (3, 5, 7, 17, 97, 65537, 4294967291, 9223372036854775783):
            self.check(square, (p + 1, p), [0, 1])
            # The rest counts, not whether a is a square itself.
            self.check(square, (p + 4, p), [0, min(2, p - 2)])
        self.check(square, (BEYOND - 59 + 1, BEYOND - 59), [0, 1])
        self.check(square, (BEYOND - 59 + 4, BEYOND - 59), [0, 2])
        self.check_number(GREATEST, BEYOND - 59)

    def test_small_primes_by_trying_each(self):
        for p, mark in enumerate(primes_below(260)):
            if mark:
                least = {}
                for x in range(p):
                    least.setdefault(x * x % p, x)
                for a in range(2 * p + 2):
                    self.check(square, (a, p), [0, least[a % p]] if a % p in least else [-1])

    def test_further_primes_by_trying_each(self):
        # These leave 1, 3, 5 and 7 by 8, the last one 1 by 4096.
        for p in (1009, 1019, 1013, 1031, 12289):
            least = {}
            for x in range(p):
                least.setdefault(x * x % p, x)
            for a in range(0, 2 * p, 3):
                self.check(square, (a, p), [0, least[a % p]] if a % p in least else [-1])

    def test_primes_of_each_rest_by_8(self):
        for rest, primes in (
            (1, (1000000009, 2305843009213693921, 18446744073709551521)),
            (3, (1000000123, 4294967291, 18446744073709551427)),
            (5, (1000000021, 18446744073709551533, 18446744073709551557)),
            (7, (1000000007, 2305843009213693951, 18446744073709551359)),
        ):
            for p in primes:
                self.assertEqual(p % 8, rest, p)
                for x in some_numbers(12, 17):
                    self.check_root(x, p)
                for a in some_numbers(12, 18):
                    self.check_number(a, p)

    def test_minus_1_and_2(self):
        for p in GREAT_PRIMES + PRIMES_WITH_MANY_TWOS:
            # p - 1 is a square just by primes that leave 1 by 4, and 2 just by those that leave 1 or 7 by 8.
            self.assertEqual(square(p - 1, p) == [-1], p % 4 == 3, p)
            self.assertEqual(square(2, p) == [-1], p % 8 in (3, 5), p)
            self.check_number(p - 1, p)
            self.check_number(2, p)

    def test_primes_with_many_twos(self):
        for p in PRIMES_WITH_MANY_TWOS:
            self.assertEqual((p - 1) % 256, 0)
            for x in [1, 2, 3, p // 2, p // 2 + 1, p - 2, p - 1] + some_numbers(16, 19):
                self.check_root(x, p)
            for a in list(range(2, 30)) + some_numbers(16, 20):
                self.check_number(a, p)

    def test_roots_of_1_that_take_many_halvings(self):
        for p in PRIMES_WITH_MANY_TWOS:
            other = next(z for z in range(2, p) if pow(z, (p - 1) // 2, p) == p - 1)
            odd = p - 1
            while odd % 2 == 0:
                odd //= 2
            number = pow(other, odd, p)
            self.check(square, (number, p), [-1])
            while number != 1:
                self.check_root(number, p)
                number = number * number % p

    def test_primes_by_which_all_small_numbers_are_squares(self):
        for p, least in PRIMES_WITH_MANY_SQUARES.items():
            for a in range(1, least):
                self.assertEqual(square(a, p)[0], 0, (a, p))
                self.check_number(a, p)
            self.check(square, (least, p), [-1])
            for x in some_numbers(12, 31):
                self.check_root(x, p)

    def test_great_primes(self):
        for p in GREAT_PRIMES:
            for x in [1, 2, 3, p // 2, p // 2 + 1, p - 2, p - 1] + some_numbers(12, 21):
                self.check_root(x, p)
            for a in some_numbers(12, 22):
                self.check_number(a, p)

    def test_the_greatest_prime(self):
        p = 18446744073709551557
        self.check(square, (0, p), [0, 0])
        self.check(square, (1, p), [0, 1])
        self.check(square, (2, p), [-1])
        self.check(square, (4, p), [0, 2])
        self.check(square, (p, p), [0, 0])
        self.check(square, (p + 4, p), [0, 2])
        self.check(square, (4294967295 * 4294967295, p), [0, 4294967295])
        self.check_root(p // 2, p)
        self.check_root(p // 2 + 1, p)
        for a in (3, 5, 6, 7, 10, p - 2, p - 1, p + 2, p + 3, GREATEST - 1, GREATEST):
            self.check_number(a, p)

    def test_a_number_and_its_product_with_none(self):
        # A square times a number that is none is none.
        for p in GREAT_PRIMES + PRIMES_WITH_MANY_TWOS:
            other = next(z for z in range(2, p) if pow(z, (p - 1) // 2, p) == p - 1)
            for x in some_numbers(8, 23):
                if x % p != 0:
                    self.check(square, (x * x * other % p, p), [-1])

    def test_nothing_is_kept(self):
        self.check_nothing_kept(square, (2, 7), (2, 17))
        self.check_nothing_kept(square, (3, 7), (2, 7))
        self.check_nothing_kept(square, (2, 8), (2, 7))
