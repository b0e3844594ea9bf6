"""Promise 11: rests, and 0 as what rests are taken by."""

import itertools
import math

from checks import BEYOND, GREATEST, MIDDLE_PRIMES, CallTest, some_numbers
from made64.numbers import rests

FIRST_PRIMES = (2, 3, 5, 7, 11, 13, 17, 19, 23, 29, 31, 37, 41, 43, 47)


def refuse(*handed, **named):
    raise AssertionError("what is handed in was to be changed")


class Sealed(list):
    """A list that can't be changed, not for a while either."""

    append = clear = extend = insert = pop = remove = reverse = sort = refuse
    __setitem__ = __delitem__ = __iadd__ = __imul__ = refuse


class RestsTest(CallTest):

    def check_rests(self, r, m, expected):
        """Checks the answer, that r and m are left as they were, and that their order doesn't count."""
        for turn in (1, -1):
            handed_r = Sealed(r[::turn])
            handed_m = Sealed(m[::turn])
            self.check(rests, (handed_r, handed_m), expected)
            self.assertEqual(handed_r, r[::turn])
            self.assertEqual(handed_m, m[::turn])

    def check_number(self, x, m):
        """That a number is found again from its rests, or that their multiple is too great."""
        divisors = [number or BEYOND for number in m]
        multiple = math.lcm(*divisors)
        r = [x % divisor for divisor in divisors]
        if multiple > BEYOND:
            self.check_rests(r, m, [-2])
        else:
            self.check_rests(r, m, [0, x % multiple, multiple % BEYOND])

    def test_no_numbers(self):
        self.check(rests, ([], []), [0, 0, 1])

    def test_ordinary_numbers(self):
        self.check_rests([2, 3, 2], [3, 5, 7], [0, 23, 105])
        self.check_rests([1, 2], [2, 3], [0, 5, 6])
        self.check_rests([3, 5], [4, 6], [0, 11, 12])
        self.check_rests([0, 0, 0], [4, 6, 10], [0, 0, 60])
        self.check_rests([1, 2, 3, 4, 5], [2, 3, 4, 5, 6], [0, 59, 60])
        self.check_rests([7, 1], [10, 1000], [-1])
        self.check_rests([1, 2], [4, 6], [-1])

    def test_one_number(self):
        self.check_rests([3], [10], [0, 3, 10])
        self.check_rests([0], [10], [0, 0, 10])
        self.check_rests([9], [10], [0, 9, 10])
        self.check_rests([10], [10], [0, 0, 10])
        self.check_rests([13], [10], [0, 3, 10])
        self.check_rests([1003], [10], [0, 3, 10])
        self.check_rests([GREATEST], [10], [0, 5, 10])
        self.check_rests([5], [GREATEST], [0, 5, GREATEST])
        self.check_rests([GREATEST - 1], [GREATEST], [0, GREATEST - 1, GREATEST])
        self.check_rests([GREATEST], [GREATEST], [0, 0, GREATEST])
        self.check_rests([GREATEST], [GREATEST - 1], [0, 1, GREATEST - 1])

    def test_one_number_by_2_to_the_64th(self):
        for r in (0, 1, 2, 10, BEYOND // 2, GREATEST - 1, GREATEST):
            self.check_rests([r], [0], [0, r, 0])

    def test_one_number_by_1(self):
        for r in (0, 1, 2, 10, BEYOND // 2, GREATEST):
            self.check_rests([r], [1], [0, 0, 1])

    def test_1_among_others_changes_nothing(self):
        self.check_rests([5, 3], [1, 10], [0, 3, 10])
        self.check_rests([5, 3, 8], [1, 10, 1], [0, 3, 10])
        self.check_rests([GREATEST, GREATEST], [1, 0], [0, GREATEST, 0])
        self.check_rests([GREATEST, 0, 7], [1, 1, 1], [0, 0, 1])
        self.check_rests([5, 3, 4], [1, 10, 10], [-1])
        self.check_rests([1, 2, 3], [1, 4294967291, 18446744073709551557], [-2])

    def test_2_to_the_64th_more_than_once(self):
        for x in (0, 1, 12345, BEYOND // 2, GREATEST):
            self.check_rests([x, x], [0, 0], [0, x, 0])
            self.check_rests([x, x, x], [0, 0, 0], [0, x, 0])
            self.check_rests([x, x ^ 1], [0, 0], [-1])
            self.check_rests([x, x ^ (BEYOND // 2)], [0, 0], [-1])
            self.check_rests([x, x, x ^ 1], [0, 0, 0], [-1])

    def test_2_to_the_64th_and_its_divisors(self):
        for x in (0, 1, 5, 4294967295, 1311768467463790320, GREATEST):
            for k in range(64):
                self.check_rests([x, x % 2 ** k], [0, 2 ** k], [0, x, 0])
                self.check_rests([x, x], [0, 2 ** k], [0, x, 0])
                if k > 0:
                    self.check_rests([x, x ^ 1], [0, 2 ** k], [-1])
                    self.check_rests([x, (x ^ 2 ** (k - 1)) % 2 ** k], [0, 2 ** k], [-1])
                # Above the k lowest bits the rest by the lesser one doesn't count.
                self.check_rests([x, x ^ 2 ** k], [0, 2 ** k], [0, x, 0])
            self.check_rests([x, x % 8, x % 65536, x], [0, 8, 65536, 0], [0, x, 0])

    def test_2_to_the_64th_and_others(self):
        for x in (0, 1, 5, GREATEST):
            for m in (3, 5, 6, 10, 97, 4294967295, 18446744073709551557, GREATEST - 1, GREATEST):
                self.check_rests([x, x % m], [0, m], [-2])
                self.check_rests([x, x % m, x, 0], [0, m, 0, 1], [-2])
        # By odd numbers each rest goes with each; by even ones only what is as even or odd.
        self.check_rests([0, 1], [0, 3], [-2])
        self.check_rests([0, 2], [0, 6], [-2])
        self.check_rests([0, 1], [0, 6], [-1])
        self.check_rests([1, 2], [0, 12], [-1])

    def test_small_pairs_by_trying_each(self):
        for first, second in itertools.product(range(1, 13), repeat=2):
            multiple = math.lcm(first, second)
            for a in range(first + 1):
                for b in range(second + 1):
                    found = [x for x in range(multiple) if (x - a) % first == 0 and (x - b) % second == 0]
                    self.assertLessEqual(len(found), 1)
                    self.check(rests, ([a, b], [first, second]), [0, found[0], multiple] if found else [-1])

    def test_small_triples_by_trying_each(self):
        for m in itertools.product((1, 2, 3, 4, 6, 10), repeat=3):
            multiple = math.lcm(*m)
            for r in itertools.product((0, 1, 3, 4), repeat=3):
                found = [x for x in range(multiple) if all((x - a) % d == 0 for a, d in zip(r, m))]
                self.check(rests, (list(r), list(m)), [0, found[0], multiple] if found else [-1])

    def test_the_same_number_twice(self):
        for m in (1, 2, 10, 97, 4294967296, BEYOND // 2, 18446744073709551557, GREATEST):
            self.check_rests([m - 1, m - 1], [m, m], [0, m - 1, m])
            self.check_rests([0, m], [m, m], [0, 0, m])
            if m > 1:
                self.check_rests([0, 1], [m, m], [-1])
                self.check_rests([m - 1, m], [m, m], [-1])

    def test_divisors_in_common(self):
        self.check_rests([5, 8, 11], [6, 9, 15], [0, 71, 90])
        self.check_rests([5, 8, 12], [6, 9, 15], [-1])
        self.check_rests([5, 7, 11], [6, 9, 15], [-1])
        self.check_rests([1, 4, 4], [6, 10, 15], [-1])
        self.check_rests([1, 9, 4], [6, 10, 15], [0, 19, 30])
        # The rests go together two by two only where they do by each prime's greatest power.
        self.check_rests([1, 5, 13], [4, 8, 16], [0, 13, 16])
        self.check_rests([1, 5, 9], [4, 8, 16], [-1])

    def test_rests_above_what_they_are_by(self):
        self.check_rests([23, 23, 23], [3, 5, 7], [0, 23, 105])
        self.check_rests([GREATEST] * 3, [3, 5, 7], [0, 15, 105])
        self.check_rests([GREATEST, GREATEST - 1], [6, 4], [-1])
        for x in some_numbers(40, 38):
            self.check_rests([x, x, x], [360, 1001, 65536], [0, x % 2952069120, 2952069120])

    def test_a_multiple_of_just_2_to_the_64th(self):
        self.check_rests([7, 7], [0, 8], [0, 7, 0])
        self.check_rests([GREATEST, 1], [0, 2], [0, GREATEST, 0])
        self.check_rests([0, 0], [4294967296, 0], [0, 0, 0])
        self.check_rests([BEYOND // 2, 0], [0, BEYOND // 2], [0, BEYOND // 2, 0])
        self.check_rests([0, BEYOND // 2], [0, BEYOND // 2], [0, 0, 0])

    def test_a_multiple_of_just_below_2_to_the_64th(self):
        primes = [3, 5, 17, 257, 641, 65537, 6700417]
        for x in [0, 1, 2, 4294967296, BEYOND // 2, GREATEST - 2, GREATEST - 1] + some_numbers(30, 39):
            x = x % GREATEST
            self.check_rests([x % p for p in primes], primes, [0, x, GREATEST])
            self.check_rests([x % 4294967295, x % 4294967297], [4294967295, 4294967297], [0, x, GREATEST])
            self.check_rests([x, x % 641], [GREATEST, 641], [0, x, GREATEST])
            self.check_number(x, [2, BEYOND // 2 - 1])
        self.check_rests([0, BEYOND // 2 - 3], [2, BEYOND // 2 - 1], [0, GREATEST - 3, GREATEST - 1])
        self.check_rests([1, BEYOND // 2 - 2], [2, BEYOND // 2 - 1], [0, GREATEST - 2, GREATEST - 1])

    def test_a_multiple_of_just_above_2_to_the_64th(self):
        self.assertEqual(274177 * 67280421310721, BEYOND + 1)
        self.check_rests([0, 0], [274177, 67280421310721], [-2])
        self.check_rests([1, 2], [274177, 67280421310721], [-2])
        self.check_rests([0, 0], [2, BEYOND // 2 + 1], [-2])
        self.check_rests([0, 0], [8, BEYOND // 8 + 1], [-2])
        self.check_rests([0, 0, 0], [54, 27, BEYOND // 2 + 1], [-2])
        self.check_rests([1, 1], [GREATEST, GREATEST - 1], [-2])

    def test_far_above_2_to_the_64th(self):
        self.check_rests([1, 2, 3, 4], list(MIDDLE_PRIMES[:4]), [-2])
        self.check_rests([0] * 16, list(FIRST_PRIMES) + [53], [-2])
        # The least x being small doesn't make up for it.
        self.check_rests([5, 5], [GREATEST, 18446744073709551557], [-2])

    def test_none_comes_ahead_of_too_great(self):
        self.check_rests([0, 0, 1], [GREATEST, 18446744073709551557, 3], [-1])
        self.check_rests([0, 1, 0], [GREATEST, 3, 18446744073709551557], [-1])
        self.check_rests([0, 1, 0, 1], [0, 3, 5, 2], [-1])
        self.check_rests([0, 0, 0, 0, 1], list(MIDDLE_PRIMES[:4]) + [4294967291], [-1])
        self.check_rests([0, 0, 0, 0, 1], list(MIDDLE_PRIMES[:4]) + [4294967291 * 2], [-1])
        self.check_rests([1, 1, 2, 2], [0, 3, 9, 27], [-1])
        # Two that don't agree stand behind the place where the multiple gets too great.
        self.check_rests([0, 0, 0, 1, 2], [0, 18446744073709551557, 4294967291, 7, 7], [-1])
        self.check_rests([0, 0, 1, 2], [18446744073709551557, 18446744073709551533, 10, 15], [-1])

    def test_64_numbers(self):
        powers = [2 ** k for k in range(64)]
        for x in (0, 1, 1311768467463790320, BEYOND // 2 - 1):
            self.check_rests([x % d for d in powers], powers, [0, x, BEYOND // 2])
            self.check_rests([x] * 64, powers[1:] + [0], [0, x, 0])
        repeated = [FIRST_PRIMES[k % 15] for k in range(64)]
        product = math.prod(FIRST_PRIMES)
        for x in (0, 1, 600000000000000000, product - 1):
            self.check_rests([x % p for p in repeated], repeated, [0, x % product, product])
            wrong = [x % p for p in repeated]
            wrong[63] = (wrong[63] + 1) % repeated[63]
            self.check_rests(wrong, repeated, [-1])
        self.check_rests([7] * 64, [10] * 64, [0, 7, 10])
        self.check_rests([7] * 64, [0] * 64, [0, 7, 0])
        self.check_rests([7] * 64, [1] * 64, [0, 0, 1])

    def test_64_numbers_where_only_two_do_not_agree(self):
        for m in (1, 3, 18446744073709551557):
            self.check_rests([0] * 62 + [1, 2], [m] * 62 + [10, 10], [-1])
            self.check_rests([1] + [0] * 62 + [2], [10] + [m] * 62 + [10], [-1])
        self.check_rests([1] + [0] * 62 + [3], [10] + [1] * 62 + [4], [0, 11, 20])
        self.check_rests([1] + [0] * 62 + [3], [10] + [3] * 62 + [4], [0, 51, 60])

    def test_64_great_numbers(self):
        great = [GREATEST - k for k in range(64)]
        for x in (0, 5, GREATEST - 64):
            self.check_rests([x % d for d in great], great, [-2])
            # 3 divides the last as well as the first.
            wrong = [x % d for d in great]
            wrong[63] = wrong[63] + 1
            self.check_rests(wrong, great, [-1])

    def test_numbers_of_all_lengths(self):
        numbers = some_numbers(900, 40)
        for place in range(0, 900, 3):
            x, first, second = numbers[place:place + 3]
            self.check_number(x, [first, second % 1024])
            self.check_number(x, [first % 4294967296, second % 4294967296])
            self.check_number(x, [first % 65536, second % 65536, (first ^ second) % 65536, 12])
            self.check_number(x, [first % 997 + 1, second % 991 + 1, x % 983 + 1, first % 64 + 1, second % 60 + 1])
            self.check_number(x, [1 << first % 64, 1 << second % 64, 0])

    def test_one_rest_changed_among_many(self):
        numbers = some_numbers(400, 41)
        for place in range(0, 400, 2):
            x, seed = numbers[place:place + 2]
            m = [seed % 40 + 1, seed // 40 % 50 + 1, seed // 2000 % 60 + 1, seed // 120000 % 70 + 1]
            r = [x % d for d in m]
            r[place % 4] = (r[place % 4] + 1 + seed % 3) % m[place % 4]
            multiple = math.lcm(*m)
            rest = r[0]
            step = m[0]
            for a, d in zip(r[1:], m[1:]):
                # Some number from rest on by steps of step, if any, has the rest a by d: d steps show them all.
                fits = [rest + k * step for k in range(d) if (rest + k * step - a) % d == 0]
                if not fits:
                    rest = None
                    break
                rest, step = fits[0], math.lcm(step, d)
            self.check_rests(r, m, [-1] if rest is None else [0, rest % multiple, multiple])

    def test_the_same_list_twice(self):
        both = [4, 6, 0, 10]
        self.check(rests, (both, both), [-2])
        self.assertEqual(both, [4, 6, 0, 10])
        both = [4, 6, 10]
        self.check(rests, (both, both), [0, 0, 60])
        self.assertEqual(both, [4, 6, 10])

    def test_nothing_is_kept(self):
        self.check_nothing_kept(rests, ([2, 3, 2], [3, 5, 7]), ([1], [0]))
        self.check_nothing_kept(rests, ([], []), ([1, 2], [4, 6]))
        self.check_nothing_kept(rests, ([1, 2], [4, 6]), ([], []))
        self.check_nothing_kept(rests, ([0, 0], [0, 3]), ([], []))
