"""Plays that go on for ever [21]."""

from camplay.errors import NoBeat
from camplay.looks import lengths
from camplay.standing import rings, stand


# How many beats are gone, at a beat, of the play in which it lies.
def gone_at(book, beat):
    if beat < 0:
        raise NoBeat()
    return beat % lengths(book)[-1]


# The book with its limbs where its play leaves them. Each later play begins as the second one does: what
# the play moves is left where it always leaves it, and what it does not move stays.
def played(book):
    left = stand(book, lengths(book)[-1])
    return ([(limb[0], height) for limb, height in zip(book[0], left)], book[1])


def stand_ever(book, beat):
    gone = gone_at(book, beat)
    return stand(book if gone == beat else played(book), gone)


def rings_ever(book, beat):
    return rings(book, gone_at(book, beat))
