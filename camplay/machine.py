"""The machine: drums turned beat by beat, or set at any beat [19] [20]."""

from camplay.drums import book_of
from camplay.errors import Done, NoBeat, NoPins
from camplay.standing import Stage
from camplay.strands import progress


# The pins of a part of which so many beats are gone. starts are the heights from which raises began, and
# inside has the pins of the parts that are named, by their numbers and beats gone.
def pins_of(stage, starts, inside, part, gone):
    form = stage.forms[part]
    if form[0] == "raise":
        return (gone, starts[stage.limbs[form[1]]])
    if form[0] in ("hold", "ring"):
        return (gone,)
    found = progress(stage.pieces[part], stage.sizes, gone)
    pins = [inside.get((other, rest)) for other, begin, over, rest in found]
    if form[0] == "side":
        return tuple(pins)
    return (sum([over for other, begin, over, rest in found]), pins[-1])


# Two places with the same number and beats gone have the same pins: a part that moves a limb is played
# at one place at a time, and with any other one nothing else comes in.
def pins_at(stage, beat):
    scene = stage.scene(beat)
    found = {}
    for part, gone in scene[1][::-1]:
        found[(part, gone)] = pins_of(stage, scene[0], found, part, gone)
    return found.get((len(stage.forms) - 1, beat))


# A machine keeps its beat alone, and reckons all else from it: so it does not matter how it came there.
class Machine:
    def __init__(self, box):
        self.stage = Stage(book_of(box))
        self.last = self.stage.sizes[-1]
        self.now = 0

    def step(self):
        if self.now == self.last:
            raise Done()
        self.now += 1
        return self.stage.words_at(self.now)

    def jump(self, beat):
        if not 0 <= beat <= self.last:
            raise NoBeat()
        self.now = beat

    def beat(self):
        return self.now

    def heights(self):
        return self.stage.heights_at(self.now)

    def pins(self):
        return pins_at(self.stage, self.now)

    def kept(self):
        return (self.now, tuple(self.heights()), self.pins())


def resumed(box, kept):
    machine = Machine(box)
    try:
        machine.jump(kept[0])
    except NoBeat:
        raise NoPins() from None
    if machine.kept() != kept:
        raise NoPins()
    return machine
