"""Primes, the parts of numbers, powers and roots by a number, for all numbers of 64 bits."""

# 2 to the 64th: one more than the greatest number that is handed over.
BEYOND = 18446744073709551616


def whole_divisor(m):
    """The number that rests by m are taken by."""
    # 2 to the 64th is too great to be handed over itself, so 0 stands for it.
    if m == 0:
        return BEYOND
    return m


def greatest_divisor(a, b):
    """The greatest number that divides both a and b; 0 if both are 0."""
    divisor = a
    rest = b
    while rest > 0:
        smaller = divisor % rest
        divisor = rest
        rest = smaller
    return divisor


def rest_of_power(a, e, divisor):
    """The rest of a to the power e by a divisor above 0."""
    # By 1 even the power 0 has the rest 0, so the product can't begin with a bare 1.
    product = 1 % divisor
    factor = a % divisor
    left = e
    while left > 0:
        if left % 2 == 1:
            product = product * factor % divisor
        factor = factor * factor % divisor
        left = left // 2
    return product


def common(a, b):
    """The greatest common divisor of a and b; 0 if both are 0."""
    return [greatest_divisor(a, b)]


def power(a, e, m):
    """The rest of a to the power e by m."""
    return [rest_of_power(a, e, whole_divisor(m))]
