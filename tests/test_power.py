"""Promise 2: power, and 0 as what rests are taken by."""

from checks import BEYOND, GREATEST, CallTest, some_numbers
from made64.numbers import power


class PowerTest(CallTest):

    def test_ordinary_numbers(self):
        for a, e, m, expected in (
            (2, 10, 1000, 24),
            (3, 4, 100, 81),
            (3, 5, 100, 43),
            (7, 1, 10, 7),
            (5, 3, 13, 8),
            (10, 9, 6, 4),
            (2, 64, 18446744073709551557, 59),
            (0, 5, 7, 0),
            (1, GREATEST, 7, 1),
        ):
            self.check(power, (a, e, m), [expected])

    def test_small_numbers_by_the_whole_power(self):
        for a in range(13):
            for e in range(13):
                for m in range(1, 13):
                    self.check(power, (a, e, m), [a ** e % m])

    def test_the_power_0(self):
        for a in (0, 1, 2, 12, BEYOND // 2, GREATEST):
            for m in (0, 2, 3, 12, BEYOND // 2, GREATEST):
                self.check(power, (a, 0, m), [1])
            self.check(power, (a, 0, 1), [0])

    def test_0_to_a_power(self):
        for m in (0, 2, 12, GREATEST):
            self.check(power, (0, 0, m), [1])
            for e in (1, 2, 64, GREATEST):
                self.check(power, (0, e, m), [0])

    def test_rests_by_2_to_the_64th(self):
        for a, e, expected in (
            (2, 63, 9223372036854775808),
            (2, 64, 0),
            (2, 65, 0),
            (4294967296, 2, 0),
            (4294967297, 2, 8589934593),
            (3, 40, 12157665459056928801),
            (3, 41, 36472996377170786403 - BEYOND),
            (GREATEST, 1, GREATEST),
            (GREATEST, 2, 1),
            (GREATEST, GREATEST, GREATEST),
            (GREATEST, GREATEST - 1, 1),
            (5, BEYOND // 4, 1),
            (5, BEYOND // 8, BEYOND // 2 + 1),
        ):
            self.check(power, (a, e, 0), [expected])

    def test_rests_by_1(self):
        for a in (0, 1, 2, GREATEST):
            for e in (0, 1, 2, GREATEST):
                self.check(power, (a, e, 1), [0])

    def test_a_below_equal_to_and_above_m(self):
        for m in (2, 3, 12, 97, 4294967291, BEYOND // 2, GREATEST - 1):
            self.check(power, (m - 1, 1, m), [m - 1])
            self.check(power, (m - 1, 2, m), [1])
            self.check(power, (m, 0, m), [1])
            self.check(power, (m, 1, m), [0])
            self.check(power, (m, 3, m), [0])
            self.check(power, (m + 1, 1, m), [1])
            self.check(power, (m + 1, GREATEST, m), [1])
        self.check(power, (100, 3, 7), [1])
        self.check(power, (101, 3, 7), [6])

    def test_the_greatest_numbers(self):
        for a, e, m, expected in (
            (GREATEST, GREATEST, GREATEST, 0),
            (GREATEST, 0, GREATEST, 1),
            (GREATEST, 5, GREATEST, 0),
            (GREATEST - 1, GREATEST, GREATEST, GREATEST - 1),
            (GREATEST - 1, GREATEST - 1, GREATEST, 1),
            (GREATEST, GREATEST, GREATEST - 1, 1),
            (2, GREATEST, GREATEST, 9223372036854775808),
            (2, 64, GREATEST, 1),
            (GREATEST, 1, 10, 5),
            (GREATEST, GREATEST, 2, 1),
            (3, GREATEST, 7, 6),
        ):
            self.check(power, (a, e, m), [expected])

    def test_a_great_prime_gives_the_rest_1_to_the_power_below_it(self):
        for p in (18446744073709551557, 18446744073709551533, 4294967291):
            for a in (2, 3, p - 1, p - 2):
                self.check(power, (a, p - 1, p), [1])

    def test_numbers_of_all_lengths(self):
        triples = zip(some_numbers(500, 3), some_numbers(500, 4), reversed(some_numbers(500, 5)))
        for a, e, m in triples:
            self.check(power, (a, e, m), [pow(a, e, m or BEYOND)])
            self.check(power, (a, e, 0), [pow(a, e, BEYOND)])
            self.check(power, (a, e, GREATEST), [pow(a, e, GREATEST)])

    def test_nothing_is_kept(self):
        self.check_nothing_kept(power, (2, 10, 1000), (3, GREATEST, 0))
