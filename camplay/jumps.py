"""The first beat at which a limb changes by more than told [16]."""

from camplay.standing import stand
from camplay.strands import Strand


# Of a ramp the first beat, from its begin on, at which it changes by more than most, or None. It changes
# by even or by even + 1: by even at first, and by even + 1 as soon as the rest has made up a whole one.
# Of a falling one even is the greater change, so it comes at first or never.
def ramp_jump(start, goal, beats, most):
    even = (goal - start) // beats
    rest = (goal - start) % beats
    if abs(even) > most:
        return 0
    return (beats - 1) // rest if rest > 0 and even + 1 > most else None


# Of a part that begins at a height; jumps has the same of the parts ahead, by the heights at which they begin.
def part_jump(strand, jumps, most, part, height):
    if strand.raises(part):
        return ramp_jump(height, strand.left[part], strand.sizes[part], most)
    for other, turns, begin in strand.pieces[part]:
        if jumps[other][height] is not None:
            return begin + jumps[other][height]
        height = strand.left[other]
    return None


def limb_jump(strand, most):
    jumps = []
    for part, begun in enumerate(strand.begun):
        jumps.append(dict([(height, part_jump(strand, jumps, most, part, height)) for height in begun]))
    return jumps[-1][strand.first]


def first_jump(book, most):
    found = []
    for number, limb in enumerate(book[0]):
        beat = limb_jump(Strand(book, limb[0]), most)
        if beat is not None:
            found.append((beat, number))
    if not found:
        return None
    first = min(found)
    change = stand(book, first[0] + 1)[first[1]] - stand(book, first[0])[first[1]]
    return (first[0], book[0][first[1]][0], change)
