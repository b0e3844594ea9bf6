"""Primes, the parts of numbers, powers and roots by a number, for all numbers of 64 bits."""

# 2 to the 64th: one more than the greatest number that is handed over.
BEYOND = 18446744073709551616

# The least product that looks like a prime by each of these is 318665857834031151167461
# (Sorenson and Webster, 2015), far above 64 bits, so together they leave no doubt.
WITNESSES = (2, 3, 5, 7, 11, 13, 17, 19, 23, 29, 31, 37)

# To look for a common divisor takes as long as many steps of a walk, so this many share one look.
STRIDE = 128


def whole_divisor(m):
    """The number that rests by m are taken by."""
    # 2 to the 64th is too great to be handed over itself, so 0 stands for it.
    if m == 0:
        return BEYOND
    return m


def greatest_divisor(a, b):
    """The greatest number that divides both a and b; 0 if both are 0."""
    divisor = a
    rest = b
    while rest > 0:
        smaller = divisor % rest
        divisor = rest
        rest = smaller
    return divisor


def rest_of_power(a, e, divisor):
    """The rest of a to the power e by a divisor above 0."""
    # By 1 even the power 0 has the rest 0, so the product can't begin with a bare 1.
    product = 1 % divisor
    factor = a % divisor
    left = e
    while left > 0:
        if left % 2 == 1:
            product = product * factor % divisor
        factor = factor * factor % divisor
        left = left // 2
    return product


def inverse_by(a, divisor):
    """The number below a divisor above 0 whose product with a has the rest of 1 by it; None if there's none."""
    # What makes this right: by the divisor, a * factor_before and a * factor always
    # have the same rests as before and rest; so when before is 1, its factor is sought.
    before = divisor
    rest = a % divisor
    factor_before = 0
    factor = 1
    while rest > 0:
        times = before // rest
        smaller = before - times * rest
        factor_smaller = (factor_before - times * factor) % divisor
        before = rest
        factor_before = factor
        rest = smaller
        factor = factor_smaller
    if before != 1:
        return None
    return factor_before


def looks_prime(n, witness, odd, twos):
    """Whether the odd number n, where n - 1 is odd times 2 to the power twos, passes as a prime by the witness."""
    rest = rest_of_power(witness, odd, n)
    if rest == 1:
        return True
    # By a prime only 1 and n - 1 have the square 1, so n - 1 must come ahead of the first 1.
    for step in range(twos):
        if rest == n - 1:
            return True
        rest = rest * rest % n
    return False


def is_prime(n):
    """Whether n is a prime."""
    if n < 2:
        return False
    # A witness says nothing of its own multiples, itself among them.
    for witness in WITNESSES:
        if n % witness == 0:
            return n == witness
    odd = n - 1
    twos = 0
    while odd % 2 == 0:
        odd = odd // 2
        twos = twos + 1
    for witness in WITNESSES:
        if not looks_prime(n, witness, odd, twos):
            return False
    return True


def prime_above(n):
    """The least prime above n that is below 2 to the 64th; None if there's none."""
    for number in range(n + 1, BEYOND):
        if is_prime(number):
            return number
    return None


def first_divisor(n, shift, place, mark):
    """The first divisor above 1 that n has in common with a difference to the mark, walking on from place."""
    divisor = 1
    while divisor == 1:
        place = (place * place + shift) % n
        divisor = greatest_divisor((place - mark) % n, n)
    return divisor


def divisor_by_walk(n, shift):
    """A divisor of n above 1, often less than n, that a walk tells: from 2 on, each place squared plus the shift."""
    # By a prime in n the walk goes round sooner than by n itself: then the prime divides
    # the difference of two places. Marks further and further on come to lie in that round.
    place = 2
    length = 1
    while True:
        mark = place
        walked = 0
        while walked < length:
            start = place
            steps = min(STRIDE, length - walked)
            product = 1
            for step in range(steps):
                place = (place * place + shift) % n
                product = product * (place - mark) % n
            # The product may hold all of n where a single difference doesn't, so these are looked at anew.
            if greatest_divisor(product, n) > 1:
                return first_divisor(n, shift, start, mark)
            walked = walked + steps
        length = length * 2


def proper_divisor(n):
    """A divisor above 1 and below n of a number n that is neither 0 nor 1 nor a prime."""
    for witness in WITNESSES:
        if n % witness == 0:
            return witness
    # This ends: with the shift p - 2, p being a prime in n, the first step is from 2 to p + 2, which tells p.
    shift = 1
    divisor = divisor_by_walk(n, shift)
    while divisor == n:
        shift = shift + 1
        divisor = divisor_by_walk(n, shift)
    return divisor


def prime_powers(n):
    """The primes that divide a number n above 0, rising, each in a pair with how often it does."""
    often = {}
    left = [n]
    while len(left) > 0:
        part = left.pop()
        if is_prime(part):
            often[part] = often.get(part, 0) + 1
        elif part > 1:
            divisor = proper_divisor(part)
            left.append(divisor)
            left.append(part // divisor)
    return [(p, often[p]) for p in sorted(often)]


def count_coprimes(n):
    """How many of the numbers from 1 to a number n above 0 have no divisor but 1 in common with n."""
    count = n
    for pair in prime_powers(n):
        # Of each p numbers on end, p - 1 are no multiples of p, whatever other primes do.
        count = count // pair[0] * (pair[0] - 1)
    return count


def power_is_above(x, k, n):
    """Whether the k-th power of a number x above 1 is above n."""
    product = 1
    for step in range(k):
        product = product * x
        # A number above 1 gets above 64 bits in 64 steps at most, so a great k takes no longer.
        if product > n:
            return True
    return False


def whole_root(n, k):
    """The greatest whole number whose k-th power is n at most, for n and k above 0."""
    lower = 1
    upper = n + 1
    while upper - lower > 1:
        middle = (lower + upper) // 2
        if power_is_above(middle, k, n):
            upper = middle
        else:
            lower = middle
    return lower


def sign_by(a, n):
    """What jacobi tells of a by an odd number n: 1, 0 or -1."""
    sign = 1
    upper = a % n
    lower = n
    while upper > 0:
        # 2 tells -1 by just those odd numbers that leave 3 or 5 by 8.
        while upper % 2 == 0:
            upper = upper // 2
            if lower % 8 == 3 or lower % 8 == 5:
                sign = -sign
        # Two odd numbers tell the same of one another, but where both leave 3 by 4.
        if upper % 4 == 3 and lower % 4 == 3:
            sign = -sign
        rest = lower % upper
        lower = upper
        upper = rest
    # What is left divides both a and n.
    if lower > 1:
        return 0
    return sign


def least_without_root(p):
    """The least number that has the rest of no square by an odd prime p."""
    number = 2
    while sign_by(number, p) != -1:
        number = number + 1
    return number


def some_root_by(a, p):
    """A number whose square has the rest of a by an odd prime p, which doesn't divide a, where there is one."""
    other = least_without_root(p)
    half = (p - 1) // 2
    turns = 0
    # By p, a to the power half times other to the power turns always has the rest 1. With both halved
    # its square is 1, so it is 1 or p - 1; and other to the power (p - 1) // 2, which is p - 1, mends that.
    while half % 2 == 0:
        half = half // 2
        turns = turns // 2
        if rest_of_power(a, half, p) * rest_of_power(other, turns, p) % p != 1:
            turns = turns + (p - 1) // 2
    # Once half is odd, one a more makes both powers even (turns is so all along): half of each is the root.
    return rest_of_power(a, (half + 1) // 2, p) * rest_of_power(other, turns // 2, p) % p


def least_root_by(a, p):
    """The least number whose square has the rest of a by a prime p; None if there's none."""
    rest = a % p
    # By 2 each number is its own square.
    if rest == 0 or p == 2:
        return rest
    if sign_by(rest, p) == -1:
        return None
    found = some_root_by(rest, p)
    # By a prime there are just two, and they add up to it.
    return min(found, p - found)


def order_by(a, divisor):
    """The least e above 0 for which a to the power e has the rest of 1 by the divisor; 0 if there's none."""
    if greatest_divisor(a, divisor) != 1:
        return 0
    # With this power a has the rest of 1 (Euler's rule), so the least one divides it:
    # what is left when no prime can be taken away any more.
    e = count_coprimes(divisor)
    for pair in prime_powers(e):
        for step in range(pair[1]):
            if rest_of_power(a, e // pair[0], divisor) == 1:
                e = e // pair[0]
    return e


def rests_agree(r, divisors):
    """Whether some number has, for each i, the rest by divisors[i] that r[i] has."""
    # There is one for all just if there is one for each two, and so without ever
    # counting with their common multiple, which may be far above 64 bits.
    for i in range(len(r)):
        for j in range(i):
            if (r[i] - r[j]) % greatest_divisor(divisors[i], divisors[j]) != 0:
                return False
    return True


def joined_rest(x, multiple, rest, divisor):
    """The number from x on, by steps of the multiple, that first has the rest by the divisor, where one does."""
    shared = greatest_divisor(multiple, divisor)
    part = divisor // shared
    # Since one does, what is shared divides the gap too; without it the multiple has an inverse.
    gap = (rest - x) // shared
    steps = gap * inverse_by(multiple // shared, part) % part
    return x + multiple * steps


def common(a, b):
    """The greatest common divisor of a and b; 0 if both are 0."""
    return [greatest_divisor(a, b)]


def power(a, e, m):
    """The rest of a to the power e by m."""
    return [rest_of_power(a, e, whole_divisor(m))]


def inverse(a, m):
    """0, then the number below m whose product with a has the rest of 1 by m; -1 if there's none."""
    found = inverse_by(a, whole_divisor(m))
    if found is None:
        return [-1]
    return [0, found]


def prime(n):
    """1 if n is a prime, else 0."""
    if is_prime(n):
        return [1]
    return [0]


def next_of(n):
    """The least prime above n; 0 if none is below 2 to the 64th."""
    found = prime_above(n)
    if found is None:
        return [0]
    return [found]


def parts(n):
    """How many primes divide n; then these, rising, each followed by how often it does. -1 for 0."""
    if n == 0:
        return [-1]
    pairs = prime_powers(n)
    told = [len(pairs)]
    for pair in pairs:
        told.extend(pair)
    return told


def coprimes(n):
    """How many of the numbers from 1 to n have no divisor but 1 in common with n; 0 for 0."""
    if n == 0:
        return [0]
    return [count_coprimes(n)]


def root(n, k):
    """The greatest whole number whose k-th power is n at most; 0 if k is 0."""
    if n == 0 or k == 0:
        return [0]
    return [whole_root(n, k)]


def square(a, p):
    """0, then the least number whose square has the rest of a by a prime p; -1 if there's none. -2 if p is no prime."""
    if not is_prime(p):
        return [-2]
    found = least_root_by(a, p)
    if found is None:
        return [-1]
    return [0, found]


def jacobi(a, n):
    """Over the primes of an odd n, the product of 0 where one divides a, 1 where a is a square by it, else -1.

    -2 if n is even.
    """
    if n % 2 == 0:
        return [-2]
    return [sign_by(a, n)]


def order(a, m):
    """The least e above 0 for which a to the power e has the rest of 1 by m; 0 if there's none."""
    return [order_by(a, whole_divisor(m))]


def rests(r, m):
    """0, then the least x that has, for each i, the rest by m[i] that r[i] has, and the least common multiple of m.

    -1 if there's no x; else -2 if the multiple is above 2 to the 64th, which itself is told as 0.
    """
    divisors = [whole_divisor(number) for number in m]
    if not rests_agree(r, divisors):
        return [-1]
    x = 0
    multiple = 1
    for i in range(len(r)):
        x = joined_rest(x, multiple, r[i], divisors[i])
        multiple = multiple // greatest_divisor(multiple, divisors[i]) * divisors[i]
        if multiple > BEYOND:
            return [-2]
    return [0, x, multiple % BEYOND]
