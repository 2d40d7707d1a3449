"""Floor sums [1]."""


# Each round takes the whole steps out, and counts the points below the line that is left from
# its other side: the numbers shrink as in Euclid's way, so their size never makes it long.
def floor_sum(many, top, plus, bottom):
    total = 0
    while many > 0:
        total += many * (many - 1) // 2 * (top // bottom) + many * (plus // bottom)
        slope = top % bottom
        reach = slope * many + plus % bottom
        many = reach // bottom
        plus = reach % bottom
        top = bottom
        bottom = slope
    return total
