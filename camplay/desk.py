"""The desk: books kept by names, and rows of words that ask of them [23]."""

from camplay.books import read, shown
from camplay.counting import height_count, height_sum, ring_count
from camplay.drums import book_of, drums
from camplay.errors import NoLimb, NoName, NoRow
from camplay.ever import stand_ever
from camplay.finding import first_at, ring_beat
from camplay.jumps import first_jump
from camplay.looks import lengths
from camplay.meeting import meeting
from camplay.standing import rings, stand
from camplay.words import is_word, number_of

# What stands behind the first word of a row; meet is not here, as it names several books.
ROWS = {
    "length": ("name",),
    "stand": ("name", "number"),
    "rings": ("name", "number"),
    "sum": ("name", "limb", "number"),
    "at": ("name", "limb", "number", "number"),
    "rung": ("name", "word", "number"),
    "when": ("name", "word", "number"),
    "first": ("name", "limb", "number", "number"),
    "jump": ("name", "number"),
    "drums": ("name",),
    "back": ("name",),
    "ever": ("name", "number"),
}


def listed(values):
    return " ".join([str(value) for value in values])


def beat_or_never(beat):
    return "never" if beat is None else str(beat)


# From here on asked holds what stands behind the first word of a row, books in the place of their names.
def say_length(asked):
    return str(lengths(asked[0])[-1])


def say_stand(asked):
    return listed(stand(asked[0], asked[1]))


def say_rings(asked):
    words = rings(asked[0], asked[1])
    return listed(words) if words else "none"


def say_sum(asked):
    return str(height_sum(asked[0], asked[1], asked[2]))


def say_at(asked):
    return str(height_count(asked[0], asked[1], asked[2], asked[3]))


def say_rung(asked):
    return str(ring_count(asked[0], asked[1], asked[2]))


def say_when(asked):
    return beat_or_never(ring_beat(asked[0], asked[1], asked[2]))


def say_first(asked):
    return beat_or_never(first_at(asked[0], asked[1], asked[2], asked[3]))


def say_jump(asked):
    found = first_jump(asked[0], asked[1])
    return "never" if found is None else listed(found)


def say_drums(asked):
    return str(len(drums(asked[0])[1]))


def say_back(asked):
    return shown(book_of(drums(asked[0]))).replace("\n", " / ")


def say_ever(asked):
    return listed(stand_ever(asked[0], asked[1]))


def say_meet(asked):
    return beat_or_never(meeting(asked[1::2], asked[2::2], asked[0]))


ANSWERS = {
    "length": say_length,
    "stand": say_stand,
    "rings": say_rings,
    "sum": say_sum,
    "at": say_at,
    "rung": say_rung,
    "when": say_when,
    "first": say_first,
    "jump": say_jump,
    "drums": say_drums,
    "back": say_back,
    "ever": say_ever,
    "meet": say_meet,
}


def kinds_of(words):
    if words[0] == "meet" and len(words) in (4, 6, 8):
        return ("number",) + ("name", "word") * (len(words) // 2 - 1)
    return ROWS.get(words[0], ())


# What stands behind the first word of a row, as tuples (kind, value).
def asked_in(words):
    kinds = kinds_of(words)
    if "" in words or not kinds or len(kinds) != len(words) - 1:
        raise NoRow()
    values = [number_of(word) if kind == "number" else word for kind, word in zip(kinds, words[1:])]
    if None in values:
        raise NoRow()
    return list(zip(kinds, values))


class Desk:
    def __init__(self):
        self.books = {}

    # A book that is not sound is refused by lengths.
    def put(self, name, text):
        if not is_word(name):
            raise NoName()
        book = read(text)
        lengths(book)
        self.books[name] = book

    # A limb stands behind the name of its book: so no limb is missed ahead of a name.
    def say(self, row):
        words = row.split(" ")
        asked = []
        for kind, value in asked_in(words):
            if kind == "name" and value not in self.books:
                raise NoName()
            if kind == "limb" and value not in [limb[0] for limb in asked[0][0]]:
                raise NoLimb()
            asked.append(self.books[value] if kind == "name" else value)
        return ANSWERS[words[0]](asked)
