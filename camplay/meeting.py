"""Books played for ever that ring together [22]."""

from camplay.counting import RingTally
from camplay.errors import Broad
from camplay.telling import begins


# The beats of one play at which the word is rung, each once. Parts that do not ring it are passed over:
# so where the rings are few, this stays short, however long the play is.
def beats_rung(tally):
    found = []
    todo = [(len(tally.sizes) - 1, 0)] if tally.wholes[-1] > 0 else []
    while todo:
        now = todo.pop()
        ringing = [piece for piece in tally.pieces[now[0]] if tally.wholes[piece[0]] > 0]
        if ringing:
            todo.extend(begins(ringing, tally.sizes, now[1]))
        else:
            found.append(now[1])
    return sorted(set(found))


# The greatest whole number that divides both, and a factor: one times it is that number, but for a
# multiple of other. In Euclid's way each rest keeps such a factor of its own.
def common_of(one, other):
    rests = (one, other)
    factors = (1, 0)
    while rests[1] > 0:
        many = rests[0] // rests[1]
        rests = (rests[1], rests[0] - many * rests[1])
        factors = (factors[1], factors[0] - many * factors[1])
    return (rests[0], factors[0])


# Rings that come again and again are told as (beats, turn): they ring at these beats, all below the turn,
# and so many turns later. Of two such, the beats that are common to both, in the same form.
def together(rung, other):
    common = common_of(rung[1], other[1])
    steps = other[1] // common[0]
    beats = []
    for beat in rung[0]:
        for wanted in [one for one in other[0] if (one - beat) % common[0] == 0]:
            beats.append(beat + (wanted - beat) // common[0] * common[1] % steps * rung[1])
    return (beats, rung[1] * steps)


# Ahead of beat 0 nothing is played, so from below it on the first beat is that from 0 on.
def meeting(books, words, beat=0):
    tallies = [RingTally(book, word) for book, word in zip(books, words)]
    if any([tally.wholes[-1] > 12 for tally in tallies]):
        raise Broad()
    rung = ([0], 1)
    for tally in tallies:
        rung = together(rung, (beats_rung(tally), tally.last))
    begin = max(beat, 0)
    return min([begin + (one - begin) % rung[1] for one in rung[0]], default=None)
