"""Ramps: the heights on the way from start to goal, told without going through the beats [2] [3]."""

from camplay.floors import floor_sum


def ramp(start, goal, beats, j):
    return start + (goal - start) * j // beats


def ramp_sum(start, goal, beats, many):
    return start * many + floor_sum(many, goal - start, 0, beats)


# Of a ramp that does not stay: the least whole number, maybe below 0, from which on it stands
# at the height or beyond it. A falling ramp is rounded away from its start, so it is there as
# soon as it is less than one above the height.
def reached(start, goal, beats, height):
    if goal > start:
        return -((start - height) * beats // (goal - start))
    return (start - height - 1) * beats // (start - goal) + 1


# A ramp never turns, so the beats at which it stands at one height lie side by side: the first
# one of them and the one behind the last one tell them all.
def stretch(start, goal, beats, height, many):
    if goal == start:
        return (0, many if height == start else 0)
    beyond = height + 1 if goal > start else height - 1
    first = max(reached(start, goal, beats, height), 0)
    behind = min(reached(start, goal, beats, beyond), many)
    return (first, max(first, behind))


def ramp_count(start, goal, beats, height, many):
    found = stretch(start, goal, beats, height, many)
    return found[1] - found[0]


def ramp_first(start, goal, beats, height, j=0):
    found = stretch(start, goal, beats, height, beats)
    beat = max(found[0], j)
    return beat if beat < found[1] else None
