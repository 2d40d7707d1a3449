"""Books for the tests, and what the document's words tell of them, told beat by beat and apart from the program."""

import time

LIMBS = "limbs arm 0 leg 5\n"
GREAT = 10 ** 18
# One small play of 12 beats: hop ends at [1, 5].
HOP = LIMBS + """part up raise arm 7 3
part down raise arm 1 4
part bell ring ding 1
part kick raise leg 0 2
part back raise leg 5 5
part arms row bell up bell down
part legs row kick bell back
part both side legs arms
part wait hold 3
part hop row both wait
"""
# Two parts of a side that ring the same words, now and then at one beat.
CHIMES = LIMBS + """part up raise arm 9 1
part step raise leg 9 2
part bell ring ding 1
part gong ring dong 1
part a row bell up gong bell
part b row bell step bell gong
part s side a b
part t again 2 s"""
# Small plays of each form, and of forms within forms.
SMALL = tuple(LIMBS + rows for rows in (
    "part a raise arm 9 4", "part a raise arm 0 3", "part a raise leg 0 1", "part a hold 4", "part a ring ding 4",
    "part a raise arm 9 4\npart b hold 2\npart c ring dong 3\npart d raise arm 2 5\npart e row a b c d c",
    "part a raise arm 9 4\npart b row a a a", "part a raise arm 9 4\npart b hold 2\npart e row b a",
    "part a raise arm 9 4\npart b raise leg 0 7\npart c side a b",
    "part a raise arm 9 4\npart b raise leg 0 7\npart c side b a\npart d row c c",
    "part a raise arm 9 4\npart b raise arm 2 3\npart c ring ding 2\npart d row c a b\npart e again 5 d",
    "part a raise arm 9 4\npart e again 5 a", "part a raise arm 9 4\npart e again 1 a",
    "part a raise arm 9 4\npart b raise arm 4 2\npart c row a b\npart d again 2 c\npart e row d a d\npart f again 2 e",
)) + tuple(HOP + rows for rows in (
    "part p again 3 hop", "part p row hop hop up hop", "part q again 2 hop\npart p row wait q both q",
    "part q row down hop\npart p again 4 q", "part q again 3 arms\npart r again 2 legs\npart p side q r",
)) + tuple(
    "limbs w 9 x 8 y 7 z 6\npart a raise w 0 1\npart b raise x 0 4\npart bell ring ding 2\npart up raise y 20 3\n"
    "part c row bell up bell\npart e raise z 2 2\npart d again 6 e\n"
    f"part s side {names}\npart p row bell s s bell" for names in ("a b c d", "d c b a", "c a d b")) + (CHIMES,)


# What is asked, told within a second. The time is that which the program itself takes, so that a busy machine makes no
# fault of it.
def soon(ask, *asked):
    begin = time.process_time()
    found = ask(*asked)
    taken = time.process_time() - begin
    if taken >= 1:
        raise AssertionError(f"{ask.__name__} took {taken} seconds")
    return found


# Of each part's name its form.
def forms_of(book):
    return dict(book[1])


def names_in(form):
    if form[0] == "again":
        return (form[2],)
    return form[1] if form[0] in ("row", "side") else ()


# The numbers of the limbs that the part moves.
def moved_by(book, name):
    form = forms_of(book)[name]
    if form[0] == "raise":
        return {[limb for limb, height in book[0]].index(form[1])}
    return set().union(*(moved_by(book, other) for other in names_in(form)))


def length_by(book, name):
    form = forms_of(book)[name]
    if form[0] == "row":
        return sum(length_by(book, other) for other in form[1])
    if form[0] == "side":
        return max(length_by(book, other) for other in form[1])
    if form[0] == "again":
        return form[1] * length_by(book, form[2])
    return form[-1]


# One part, beat by beat: at each beat the heights are brought to what they are there, and the words rung are told.
def beats_of(forms, name, heights):
    form = forms[name]
    if form[0] == "raise":
        start = heights[form[1]]
        for j in range(form[3]):
            heights[form[1]] = start + (form[2] - start) * j // form[3]
            yield []
        heights[form[1]] = form[2]
    elif form[0] == "hold":
        for j in range(form[1]):
            yield []
    elif form[0] == "ring":
        for j in range(form[2]):
            yield [form[1]] if j == 0 else []
    elif form[0] == "row":
        for other in form[1]:
            yield from beats_of(forms, other, heights)
    elif form[0] == "again":
        for turn in range(form[1]):
            yield from beats_of(forms, form[2], heights)
    else:
        yield from beats_of_side([beats_of(forms, other, heights) for other in form[1]])


def beats_of_side(playing):
    while True:
        rung = [next(one, None) for one in playing]
        playing = [one for one, words in zip(playing, rung) if words is not None]
        if not playing:
            return
        yield [word for words in rung if words is not None for word in words]


# The heights at which the part leaves the limbs that it moves.
def end_by(book, name):
    heights = dict(book[0])
    for words in beats_of(forms_of(book), name, heights):
        pass
    left = list(heights.values())
    return [(limb, left[limb]) for limb in sorted(moved_by(book, name))]


# The whole play: tuples (heights, words) from beat 0 to its end.
def play_by(book):
    return plays_by(book, 1)


# The play so many times, one behind the other, and the beat at which the last one is over.
def plays_by(book, times):
    heights = dict(book[0])
    found = []
    for play in range(times):
        for words in beats_of(forms_of(book), book[1][-1][0], heights):
            found.append((list(heights.values()), words))
    return found + [(list(heights.values()), [])]


# One drum, turned beat by beat: the pins at each of its beats.
def pins_of_drum(drums, number, heights):
    form = drums[number]
    if form[0] == "raise":
        start = heights[form[1]]
        for j in range(form[3]):
            yield (j, start)
        heights[form[1]] = form[2]
    elif form[0] in ("hold", "ring"):
        for j in range(form[-1]):
            yield (j,)
    elif form[0] == "side":
        yield from pins_of_side([pins_of_drum(drums, other, heights) for other in form[1]])
    else:
        for place, other in enumerate(form[1] if form[0] == "row" else [form[2]] * form[1]):
            for pins in pins_of_drum(drums, other, heights):
                yield (place, pins)


def pins_of_side(turned):
    pins = tuple(next(one) for one in turned)
    while any(one is not None for one in pins):
        yield pins
        pins = tuple(next(one, None) for one in turned)


# The pins of a whole box, from beat 0 to the end.
def pins_by(box):
    heights = [height for name, height in box[0]]
    return list(pins_of_drum(box[1], len(box[1]) - 1, heights)) + [None]


# Numbers that follow no plain rule, but are the same each time.
class Drawn:
    def __init__(self, salt):
        self.state = salt * 7919 + 17

    def below(self, many):
        self.state = (self.state * 6364136223846793005 + 1442695040888963407) % 2 ** 64
        return (self.state >> 33) % many

    def one(self, among):
        return among[self.below(len(among))]


def named(number):
    return "".join("abcdefghij"[int(figure)] for figure in str(number))


# So many rows of parts: the first one tells its form, in the form of each other one AHEAD is the part ahead of it.
def chain(first, form, count, begin=0):
    names = [named(number) for number in range(begin, begin + count)]
    rows = [f"part {names[0]} {first}"]
    rows += [f"part {name} {form.replace('AHEAD', ahead)}" for ahead, name in zip(names, names[1:])]
    return "\n".join(rows)


# Raises of each limb, and rows in which one limb goes up and down with rings and holds between.
def plain_forms(drawn, limbs):
    forms = [("hold", 1 + drawn.below(4))]
    forms += [("ring", word, 1 + drawn.below(3)) for word in ("ding", "dong", "cuckoo")]
    for name, height in limbs:
        first = len(forms)
        forms += [("raise", name, drawn.below(20), 1 + drawn.below(7)) for place in range(2)]
        among = [named(number) for number in (0, 1, 2, 3, first, first + 1)]
        middle = tuple(drawn.one(among) for place in range(drawn.below(6)))
        forms.append(("row", (named(drawn.below(4)),) + middle + (named(first),)))
    return forms


# The later a part stands, the likelier it is named.
def drawn_name(drawn, parts):
    return parts[max(drawn.below(len(parts)), drawn.below(len(parts)))][0]


def drawn_form(drawn, parts, moves):
    kind = drawn.one(("row", "row", "side", "side", "side", "again"))
    if kind == "row":
        return (kind, tuple(drawn_name(drawn, parts) for place in range(1 + drawn.below(4))))
    chosen = []
    for place in range(12):
        name = drawn_name(drawn, parts)
        if len(chosen) < 4 and moves[name] and not any(moves[name] & moves[other] for other in chosen):
            chosen.append(name)
    if kind == "side" and len(chosen) > 1:
        return (kind, tuple(chosen))
    return ("again", 1 + drawn.below(4), drawn_name(drawn, parts))


# A sound book whose play lasts 300 beats at most; what a salt makes is always the same.
def drawn_book(salt):
    drawn = Drawn(salt)
    limbs = [(named(number), drawn.below(20)) for number in range(1 + drawn.below(8))]
    parts = [(named(number), form) for number, form in enumerate(plain_forms(drawn, limbs))]
    moves = {name: moved_by((limbs, parts), name) for name, form in parts}
    for number in range(len(parts), len(parts) + 1 + drawn.below(24)):
        name = named(number)
        form = drawn_form(drawn, parts, moves)
        if length_by((limbs, parts + [(name, form)]), name) > 300:
            form = ("again", 2, named(drawn.below(4)))
        parts.append((name, form))
        moves[name] = moved_by((limbs, parts), name)
    return (limbs, parts)


def drawn_books():
    return [drawn_book(salt) for salt in range(150)]


# The play of a book, so many times, and that so many times, and so on.
def often(book, times):
    parts = list(book[1])
    for name, many in zip(("far", "farther", "farthest", "utmost"), times):
        parts.append((name, ("again", many, parts[-1][0])))
    return (book[0], parts)


# The play of a book in rows within agains, 3 * (2 * GREAT + 1) times.
def far_book(book):
    play = book[1][-1][0]
    more = [("far", ("again", GREAT, play)), ("more", ("row", ("far", play, "far"))), ("most", ("again", 3, "more"))]
    return (book[0], book[1] + more)


# The play of a book as often as 10 ** 60 beats hold it, or nearly.
def utmost_book(book):
    size = length_by(book, book[1][-1][0])
    return often(book, (GREAT, GREAT, GREAT, 10 ** 6 // size))


# A play that goes on turn by turn, told by its first two turns: each later turn is like the second one, as it begins
# at the same heights.
class Turns:
    def __init__(self, base, book):
        self.two = play_by(often(base, (2,)))
        self.size = len(self.two) // 2
        self.last = length_by(book, book[1][-1][0])

    def at(self, beat):
        if beat == self.last:
            return self.two[-1]
        return self.two[beat if beat < self.size else self.size + beat % self.size]

    # The sum of what each beat ahead of a beat is worth.
    def ahead(self, worth, beat):
        worths = [worth(heights, words) for heights, words in self.two]
        first, later = worths[:self.size], worths[self.size:-1]
        if beat > self.last:
            return self.ahead(worth, beat - 1) + worths[-1]
        if beat <= self.size:
            return sum(first[:beat])
        return sum(first) + (beat // self.size - 1) * sum(later) + sum(later[:beat % self.size])

    # Beats near and far, those about the begin and the end of a turn and of the play among them.
    def beats(self):
        turns = self.last // self.size
        found = {self.last // 3, self.last // 7 * 5, self.last - self.last // 11 - 1}
        for turn in (0, 1, 2, turns // 13, turns // 2, turns - 1, turns):
            found |= {turn * self.size + rest for rest in (-1, 0, 1, self.size // 3, self.size // 2)}
        return sorted(beat for beat in found if 0 <= beat <= self.last)


# Thirty raises of one limb to heights of their own, and rows and agains that name them in many orders: what a part
# begins at hangs on what goes ahead of it.
def many_heights():
    drawn = Drawn(5)
    rows = ["limbs arm 3 leg 4"]
    for number in range(30):
        height = drawn.below(2 ** 31) * 2 ** 28 + number
        rows.append(f"part {named(number)} raise arm {height} {10 ** 17 + drawn.below(2 ** 31) * 2 ** 27}")
    for number in range(30, 60):
        names = [named(number - 1)] + [named(drawn.below(number)) for place in range(7)]
        form = f"row {' '.join(names)}" if number % 3 else f"again {2 + drawn.below(100)} {named(number - 1)}"
        rows.append(f"part {named(number)} {form}")
    return "\n".join(rows)


# Eight limbs, each in a part of a side: it raises its limb, then comes the same long chain of rings for all of them.
def side_by_side():
    limbs = "klmnopqr"
    rows = ["limbs " + " ".join(f"{limb} 0" for limb in limbs), chain("ring ding 1", "row" + " AHEAD" * 8, 41)]
    for place, limb in enumerate(limbs):
        rows += [f"part up{limb} raise {limb} 5 {90 + place}", f"part {limb} row up{limb} {named(40)}"]
    rows += ["part s side k l m n", "part t side o p q r", "part u side s t"]
    return "\n".join(rows)
