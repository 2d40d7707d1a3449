"""The play told beat by beat [11] [12]."""

from camplay.books import numbers_of
from camplay.errors import Long
from camplay.looks import lengths
from camplay.ramps import ramp
from camplay.strands import pieces_of


# The numbers of the parts that are named, with the beats at which they begin where the part that names
# them begins at beat.
def begins(pieces, sizes, beat):
    found = []
    for part, turns, begin in pieces:
        found.extend([(part, beat + begin + turn * sizes[part]) for turn in range(turns)])
    return found


# The raises, holds and rings, with the beats at which they begin. What is named ahead comes first: so
# what is told of one limb, or of the words of one beat, comes in its order. No def calls itself for
# this, as a chain of parts may be long.
def begun(book, sizes):
    pieces = pieces_of(book, sizes)
    found = []
    todo = [(len(pieces) - 1, 0)]
    while todo:
        now = todo.pop()
        if pieces[now[0]]:
            todo.extend(begins(pieces[now[0]], sizes, now[1])[::-1])
        else:
            found.append((book[1][now[0]][1], now[1]))
    return found


def stay(column, beat):
    column.extend([column[-1]] * (beat + 1 - len(column)))


def climb(column, goal, beats):
    start = column[-1]
    column.extend([ramp(start, goal, beats, j) for j in range(1, beats + 1)])


# For each limb the list of its heights, from beat 0 to the last one.
def columns_of(book, leaves, last):
    limbs = numbers_of(book[0])
    columns = [[height] for name, height in book[0]]
    for form, begin in leaves:
        if form[0] == "raise":
            column = columns[limbs[form[1]]]
            stay(column, begin)
            climb(column, form[2], form[3])
    for column in columns:
        stay(column, last)
    return columns


# For each beat the list of the words rung at it.
def words_by_beat(leaves, last):
    words = [[] for beat in range(last + 1)]
    for form, begin in leaves:
        if form[0] == "ring":
            words[begin].append(form[1])
    return words


def told(book):
    sizes = lengths(book)
    last = sizes[-1]
    if last > 300:
        raise Long()
    leaves = begun(book, sizes)
    columns = columns_of(book, leaves, last)
    found = []
    for beat, words in enumerate(words_by_beat(leaves, last)):
        found.append(([column[beat] for column in columns], words))
    return found
