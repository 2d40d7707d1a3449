"""The beats of rings, and of heights at which a limb stands [15]."""

from camplay.counting import LimbTally, RingTally
from camplay.errors import NoBeat


# The beat of that with a number, from 0 on, of what a tally counts, or None. What is counted never
# shrinks from a beat to the next: so halving finds it, in some two hundred steps at most.
def beat_of(tally, number):
    if not 0 <= number < tally.ahead(tally.last + 1):
        return None
    low = 0
    high = tally.last
    while low < high:
        middle = (low + high) // 2
        if tally.ahead(middle + 1) > number:
            high = middle
        else:
            low = middle + 1
    return low


def ring_beat(book, word, number=0):
    return beat_of(RingTally(book, word), number)


def first_at(book, limb, height, beat=0):
    tally = LimbTally(book, limb, height)
    if not 0 <= beat <= tally.last:
        raise NoBeat()
    return beat_of(tally, tally.ahead(beat))
