"""Heights and words of one beat, told without going through the beats [13]."""

from camplay.books import numbers_of
from camplay.errors import NoBeat
from camplay.looks import ends, lengths
from camplay.ramps import ramp
from camplay.strands import pieces_of, progress


# The parts that a part names as tuples (number, beats gone), when so many beats of it are gone, but
# below its length. Of several turns that are over one is told, as each leaves its limbs at the same heights.
def within(pieces, sizes, gone):
    found = []
    for part, begin, over, rest in progress(pieces, sizes, gone):
        if over > 0:
            found.append((part, sizes[part]))
        if rest is not None:
            found.append((part, rest))
    return found


# Tuples (number, beats gone) of parts that are over, their beats gone being their length or more, and
# of the raises, holds and rings that are played at the beat. The order is that in which the parts are
# named. A part that is over is not looked into: so however often parts are named, this stays short.
def reached(book, sizes, beat):
    if not 0 <= beat <= sizes[-1]:
        raise NoBeat()
    pieces = pieces_of(book, sizes)
    found = []
    todo = [(len(sizes) - 1, beat)]
    while todo:
        now = todo.pop()
        part = now[0]
        if now[1] >= sizes[part] or not pieces[part]:
            found.append(now)
        else:
            todo.extend(within(pieces[part], sizes, now[1])[::-1])
    return found


def stand(book, beat):
    sizes = lengths(book)
    left = ends(book)
    limbs = numbers_of(book[0])
    heights = [height for name, height in book[0]]
    for part, gone in reached(book, sizes, beat):
        form = book[1][part][1]
        if gone >= sizes[part]:
            for limb, height in left[part]:
                heights[limb] = height
        elif form[0] == "raise":
            limb = limbs[form[1]]
            heights[limb] = ramp(heights[limb], form[2], form[3], gone)
    return heights


def rings(book, beat):
    words = []
    for part, gone in reached(book, lengths(book), beat):
        form = book[1][part][1]
        if form[0] == "ring" and gone == 0:
            words.append(form[1])
    return words
