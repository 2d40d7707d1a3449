"""Heights and words of one beat, told without going through the beats [13]."""

from camplay.books import numbers_of
from camplay.errors import NoBeat
from camplay.looks import ends, lengths
from camplay.ramps import ramp
from camplay.strands import pieces_of, progress


# The parts that a part names as tuples (number, beats gone), when so many beats of it are gone, but
# below its length. Of several turns that are over one is told, as each leaves its limbs at the same heights.
def within(pieces, sizes, gone):
    found = []
    for part, begin, over, rest in progress(pieces, sizes, gone):
        if over > 0:
            found.append((part, sizes[part]))
        if rest is not None:
            found.append((part, rest))
    return found


# What hangs on no beat is reckoned once, so that many beats of one book can be asked for.
class Stage:
    def __init__(self, book):
        self.limbs = numbers_of(book[0])
        self.first = [height for name, height in book[0]]
        self.forms = [form for name, form in book[1]]
        self.sizes = lengths(book)
        self.left = ends(book)
        self.pieces = pieces_of(book, self.sizes)

    # The heights at which what is over has left the limbs, and the parts that are played at the beat as
    # tuples (number, beats gone), each ahead of those that it names, and these in their order. A part
    # that is over is not looked into: so however often parts are named, this stays short.
    def scene(self, beat):
        if not 0 <= beat <= self.sizes[-1]:
            raise NoBeat()
        starts = list(self.first)
        playing = []
        todo = [(len(self.sizes) - 1, beat)]
        while todo:
            now = todo.pop()
            if now[1] < self.sizes[now[0]]:
                playing.append(now)
                todo.extend(within(self.pieces[now[0]], self.sizes, now[1])[::-1])
            else:
                for limb, height in self.left[now[0]]:
                    starts[limb] = height
        return (starts, playing)

    def heights_at(self, beat):
        scene = self.scene(beat)
        heights = scene[0]
        for part, gone in scene[1]:
            form = self.forms[part]
            if form[0] == "raise":
                limb = self.limbs[form[1]]
                heights[limb] = ramp(heights[limb], form[2], form[3], gone)
        return heights

    def words_at(self, beat):
        words = []
        for part, gone in self.scene(beat)[1]:
            form = self.forms[part]
            if form[0] == "ring" and gone == 0:
                words.append(form[1])
        return words


def stand(book, beat):
    return Stage(book).heights_at(beat)


def rings(book, beat):
    return Stage(book).words_at(beat)
