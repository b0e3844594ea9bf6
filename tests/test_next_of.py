"""Promise 4, its second sentence: next, which is called next_of here."""

from checks import BEYOND, GREATEST, MIDDLE_PRIMES, TOP_GAPS, CallTest, primes_below
from made64.numbers import next_of

GREATEST_PRIME = 18446744073709551557

# Primes, each with how far above it the next one lies: uncommonly far for its size.
WIDE_GAPS = (
    (113, 14),
    (1327, 34),
    (31397, 72),
    (370261, 112),
    (20831323, 210),
    (1693182318746371, 1132),
    (1425172824437699411, 1476),
    (6787988999657777797, 1510),
    (17678654157568189057, 1530),
    (18361375334787046697, 1550),
)


class NextOfTest(CallTest):

    def test_0_1_and_2(self):
        self.check(next_of, (0,), [2])
        self.check(next_of, (1,), [2])
        self.check(next_of, (2,), [3])

    def test_each_number_by_striking_out_multiples(self):
        marks = primes_below(30001)
        above = 30011
        for n in range(30000, -1, -1):
            self.check(next_of, (n,), [above])
            if marks[n]:
                above = n

    def test_from_a_prime_to_the_one_after_it(self):
        for p, q in zip(MIDDLE_PRIMES, MIDDLE_PRIMES[1:]):
            self.check(next_of, (p,), [q])
        self.check(next_of, (3,), [5])
        self.check(next_of, (7,), [11])
        self.check(next_of, (1000000007,), [1000000009])
        self.check(next_of, (9223372036854775783,), [9223372036854775837])

    def test_from_just_below_a_prime_to_it(self):
        for p in MIDDLE_PRIMES + (3, 5, 7, 11, 1000003, 2147483647, 2305843009213693951, 9223372036854775783):
            self.check(next_of, (p - 1,), [p])

    def test_around_numbers_of_32_bits(self):
        self.check(next_of, (4294967295,), [4294967311])
        self.check(next_of, (4294967296,), [4294967311])

    def test_within_wide_gaps(self):
        for p, gap in WIDE_GAPS:
            for step in (0, 1, gap // 2, gap - 2, gap - 1):
                self.check(next_of, (p + step,), [p + gap])
            self.check(next_of, (p - 1,), [p])

    def test_the_greatest_primes(self):
        for gap, gap_after in zip(TOP_GAPS[1:], TOP_GAPS):
            for below in range(gap, gap_after, -1):
                self.check(next_of, (BEYOND - below,), [BEYOND - gap_after])

    def test_the_greatest_prime_is_the_last_answer(self):
        self.check(next_of, (GREATEST_PRIME - 1,), [GREATEST_PRIME])

    def test_none_is_left_from_the_greatest_prime_on(self):
        for n in range(GREATEST_PRIME, GREATEST + 1):
            self.check(next_of, (n,), [0])

    def test_nothing_is_kept(self):
        self.check_nothing_kept(next_of, (10,), (20,))
        self.check_nothing_kept(next_of, (GREATEST,), (20,))
