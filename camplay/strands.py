"""Strands: when the parts that a part names begin, for all limbs [11], and for one limb from which heights."""

from camplay.books import numbers_of
from camplay.looks import ends, inner, lengths


# The parts that a part names: tuples (number, turns, begin), so many turns one behind the other, the
# first one so many beats behind the begin of the part that names it. The first turn of an again stands
# apart: it may begin at other heights than the later ones, which begin where a turn leaves the limbs.
def pieces_in(form, inside, sizes):
    if form[0] == "again":
        part = inside[0]
        later = [(part, form[1] - 1, sizes[part])] if form[1] > 1 else []
        return [(part, 1, 0)] + later
    found = []
    begin = 0
    for part in inside:
        found.append((part, 1, begin))
        if form[0] == "row":
            begin += sizes[part]
    return found


def pieces_of(book, sizes):
    return [pieces_in(part[1], inside, sizes) for part, inside in zip(book[1], inner(book))]


# How far the pieces of a part have come when so many beats of it are gone: tuples (number, begin, turns
# that are over, beats gone of the turn played just then, or None where all are over). What has not
# begun is left out.
def progress(pieces, sizes, gone):
    found = []
    for part, turns, begin in pieces:
        if begin <= gone:
            over = min((gone - begin) // sizes[part], turns)
            rest = gone - begin - over * sizes[part] if over < turns else None
            found.append((part, begin, over, rest))
    return found


# For each part the heights of the limb at which it begins, as keys. A part is named by later ones
# alone: so, from the play on back, all heights of a part are known when it is come to.
def heights_begun(pieces, left, first):
    found = [{} for inside in pieces]
    found[-1][first] = True
    for part in range(len(pieces) - 1, -1, -1):
        for height in list(found[part]):
            now = height
            for other, turns, begin in pieces[part]:
                found[other][now] = True
                now = left[other]
    return found


# What a sound book is for one limb. For each part: its length, the height at which it leaves the limb
# (None where it does not move it), its pieces that move the limb, the heights at which it begins. The
# pieces never overlap here, as one part of a side at most moves the limb; between them the limb stays.
class Strand:
    def __init__(self, book, name):
        limb = numbers_of(book[0])[name]
        left = [dict(pairs).get(limb) for pairs in ends(book)]
        self.first = book[0][limb][1]
        self.sizes = lengths(book)
        self.left = left
        self.pieces = []
        for inside in pieces_of(book, self.sizes):
            self.pieces.append([piece for piece in inside if left[piece[0]] is not None])
        self.begun = heights_begun(self.pieces, left, self.first)

    # A part that moves the limb, and not by a part that it names, raises it.
    def raises(self, part):
        return self.left[part] is not None and not self.pieces[part]
