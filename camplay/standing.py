"""Heights and words of one beat, told without going through the beats [13]."""

from camplay.books import numbers_of
from camplay.errors import NoBeat
from camplay.looks import ends, inner, lengths
from camplay.ramps import ramp


# How far the parts that a part names have come when so many beats of it are gone, but below its
# length: tuples (number, beats gone). What has not begun is left out, and of what is over in an
# again one turn is told, as each turn leaves its limbs at the same heights.
def within(kind, inside, sizes, gone):
    if kind == "side":
        return [(part, gone) for part in inside]
    if kind == "again":
        part = inside[0]
        over = [(part, sizes[part])] if gone >= sizes[part] else []
        return over + [(part, gone % sizes[part])]
    found = []
    for part in inside:
        found.append((part, gone))
        if gone < sizes[part]:
            break
        gone -= sizes[part]
    return found


# Tuples (number, beats gone) of parts that are over, their beats gone being their length or more, and
# of the raises, holds and rings that are played at the beat. The order is that in which the parts are
# named. A part that is over is not looked into: so however often parts are named, this stays short.
def reached(book, sizes, beat):
    if not 0 <= beat <= sizes[-1]:
        raise NoBeat()
    inside = inner(book)
    found = []
    todo = [(len(sizes) - 1, beat)]
    while todo:
        now = todo.pop()
        part = now[0]
        if now[1] >= sizes[part] or not inside[part]:
            found.append(now)
        else:
            todo.extend(within(book[1][part][1][0], inside[part], sizes, now[1])[::-1])
    return found


def stand(book, beat):
    sizes = lengths(book)
    left = ends(book)
    limbs = numbers_of(book[0])
    heights = [height for name, height in book[0]]
    for part, gone in reached(book, sizes, beat):
        form = book[1][part][1]
        if gone >= sizes[part]:
            for limb, height in left[part]:
                heights[limb] = height
        elif form[0] == "raise":
            limb = limbs[form[1]]
            heights[limb] = ramp(heights[limb], form[2], form[3], gone)
    return heights


def rings(book, beat):
    words = []
    for part, gone in reached(book, lengths(book), beat):
        form = book[1][part][1]
        if form[0] == "ring" and gone == 0:
            words.append(form[1])
    return words
