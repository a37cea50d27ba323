"""In which slots sleepers are awake."""

LEAST_NUMBER = 2
GREATEST_NUMBER = 1000
# 2^40, written out: the top of a module holds plain values alone
GREATEST_SLOT = 1099511627776
REFUSED = -22


def is_number_of_sleeper(number):
    return LEAST_NUMBER <= number <= GREATEST_NUMBER


def is_sleeper(p, q):
    return is_number_of_sleeper(p) and is_number_of_sleeper(q)


def first_multiple_from(number, t):
    # slots may lie near 2^40, so the multiple is reckoned, not walked to
    return (t + number - 1) // number * number


def next_awake(ap, aq, t):
    """Answer the first slot from t on in which a is awake."""
    if not is_sleeper(ap, aq) or t > GREATEST_SLOT:
        return [REFUSED]
    return [min(first_multiple_from(ap, t), first_multiple_from(aq, t))]
