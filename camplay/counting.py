"""Sums and counts over the beats ahead of a beat, told without going through them [14]."""

from camplay.errors import NoBeat
from camplay.looks import lengths
from camplay.ramps import ramp_count, ramp_sum
from camplay.strands import Strand, pieces_of, progress


# From here on an asked height of None stands for the sum of the heights, any other one for how many
# of them are that one.
def weighed(asked, start, goal, beats, many):
    if asked is None:
        return ramp_sum(start, goal, beats, many)
    return ramp_count(start, goal, beats, asked, many)


def stayed(asked, height, many):
    if asked is None:
        return height * many
    return many if height == asked else 0


# What the heights of one limb tell. The whole of each part is reckoned once for each height at which it
# begins, and a beat is then come to by one way down from the play.
class LimbTally:
    def __init__(self, book, limb, asked):
        self.strand = Strand(book, limb)
        self.last = self.strand.sizes[-1]
        self.asked = asked
        self.wholes = []
        for part, begun in enumerate(self.strand.begun):
            size = self.strand.sizes[part]
            self.wholes.append(dict([(height, self.within(part, height, size)[0]) for height in begun]))

    # Of the first so many beats of a part that begins at a height: what they tell, and, where a part
    # that it names is played just then, that one, left out of it: (number, height at its begin, beats gone).
    def within(self, part, height, gone):
        if self.strand.raises(part):
            return (weighed(self.asked, height, self.strand.left[part], self.strand.sizes[part], gone), None)
        told = 0
        now = 0
        for other, begin, over, rest in progress(self.strand.pieces[part], self.strand.sizes, gone):
            told += stayed(self.asked, height, begin - now) + over * self.wholes[other][height]
            if rest is not None:
                return (told, (other, height, rest))
            now = begin + over * self.strand.sizes[other]
            height = self.strand.left[other]
        return (told + stayed(self.asked, height, gone - now), None)

    # The beat behind the end may be asked for too: behind its end the play's limbs stay.
    def ahead(self, beat):
        told = 0
        playing = (len(self.wholes) - 1, self.strand.first, beat)
        while playing is not None:
            found = self.within(playing[0], playing[1], playing[2])
            told += found[0]
            playing = found[1]
        return told


# How often a word is rung. In a side several parts may ring it, so there may be several ways down.
class RingTally:
    def __init__(self, book, word):
        self.sizes = lengths(book)
        self.last = self.sizes[-1]
        self.pieces = pieces_of(book, self.sizes)
        self.wholes = []
        for part, pieces in zip(book[1], self.pieces):
            own = 1 if part[1][:2] == ("ring", word) else 0
            self.wholes.append(own + sum([turns * self.wholes[other] for other, turns, begin in pieces]))

    def ahead(self, beat):
        told = 0
        playing = [(len(self.sizes) - 1, beat)]
        while playing:
            now = playing.pop()
            if not self.pieces[now[0]] and now[1] > 0:
                told += self.wholes[now[0]]
            for other, begin, over, rest in progress(self.pieces[now[0]], self.sizes, now[1]):
                told += over * self.wholes[other]
                if rest is not None:
                    playing.append((other, rest))
        return told


def ahead_of(tally, beat):
    if not 0 <= beat <= tally.last + 1:
        raise NoBeat()
    return tally.ahead(beat)


def height_sum(book, limb, beat):
    return ahead_of(LimbTally(book, limb, None), beat)


def height_count(book, limb, height, beat):
    return ahead_of(LimbTally(book, limb, height), beat)


def ring_count(book, word, beat):
    return ahead_of(RingTally(book, word), beat)
