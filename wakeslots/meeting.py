"""In which slots sleepers are awake, and in which two of them meet."""

LEAST_NUMBER = 2
GREATEST_NUMBER = 1000
# 2^40, for t, d and n alike, written out: the top of a module holds plain values alone
GREATEST_SLOT = 1099511627776
REFUSED = -22
NEVER = -2


def is_number_of_sleeper(number):
    return LEAST_NUMBER <= number <= GREATEST_NUMBER


def is_sleeper(p, q):
    return is_number_of_sleeper(p) and is_number_of_sleeper(q)


def multiples_before(number, slot):
    """Answer how many of the slots from 0 to slot - 1 number divides."""
    # slots may lie near 2^40, so the multiples are reckoned, not walked through
    return (slot + number - 1) // number


def first_multiple_from(number, t):
    # multiples count from 0 times number on, so the count of those before t is the next one's own factor
    return multiples_before(number, t) * number


def next_awake(ap, aq, t):
    """Answer the first slot from t on in which a is awake."""
    if not is_sleeper(ap, aq) or t > GREATEST_SLOT:
        return [REFUSED]
    return [min(first_multiple_from(ap, t), first_multiple_from(aq, t))]


def first_common_slot(number, other, d, t):
    """Answer the first slot from t on that number divides and that, d further on, other divides, or NEVER."""
    first = first_multiple_from(number, t)
    # other multiples of number are enough: after them the remainders by other come round again
    for slot in range(first, first + other * number, number):
        if (slot + d) % other == 0:
            return slot
    return NEVER


def meet(ap, aq, bp, bq, d, t):
    """Answer the first slot from t on, by a's clock, in which a and b, d apart, are both awake, or NEVER."""
    if not is_sleeper(ap, aq) or not is_sleeper(bp, bq):
        return [REFUSED]
    if d > GREATEST_SLOT or t > GREATEST_SLOT:
        return [REFUSED]
    slots = []
    for number in (ap, aq):
        for other in (bp, bq):
            slot = first_common_slot(number, other, d, t)
            if slot != NEVER:
                slots.append(slot)
    return [min(slots, default=NEVER)]


def greatest_common_divisor(number, other):
    divisor = number
    rest = other
    while rest != 0:
        former = rest
        rest = divisor % rest
        divisor = former
    return divisor


def within(ap, aq, bp, bq):
    """Answer the least product of one of a's numbers and one of b's with no common divisor but 1, or NEVER."""
    if not is_sleeper(ap, aq) or not is_sleeper(bp, bq):
        return [REFUSED]
    products = []
    for number in (ap, aq):
        for other in (bp, bq):
            if greatest_common_divisor(number, other) == 1:
                products.append(number * other)
    return [min(products, default=NEVER)]


def many(ap, aq, n):
    """Answer in how many of the slots from 0 to n - 1 a is awake."""
    if not is_sleeper(ap, aq) or n > GREATEST_SLOT:
        return [REFUSED]
    least_common = ap * aq // greatest_common_divisor(ap, aq)
    # a slot that both numbers divide is counted with either one, so it is taken off once
    return [multiples_before(ap, n) + multiples_before(aq, n) - multiples_before(least_common, n)]
