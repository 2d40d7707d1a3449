"""Books for the tests, and what the document's words tell of them, told beat by beat and apart from the program."""


# Of each part's name its form.
def forms_of(book):
    return dict(book[1])


def names_in(form):
    if form[0] == "again":
        return (form[2],)
    return form[1] if form[0] in ("row", "side") else ()


# The numbers of the limbs that the part moves.
def moved_by(book, name):
    form = forms_of(book)[name]
    if form[0] == "raise":
        return {[limb for limb, height in book[0]].index(form[1])}
    return set().union(*(moved_by(book, other) for other in names_in(form)))


def length_by(book, name):
    form = forms_of(book)[name]
    if form[0] == "row":
        return sum(length_by(book, other) for other in form[1])
    if form[0] == "side":
        return max(length_by(book, other) for other in form[1])
    if form[0] == "again":
        return form[1] * length_by(book, form[2])
    return form[-1]


# One part, beat by beat: at each beat the heights are brought to what they are there, and the words rung are told.
def beats_of(forms, name, heights):
    form = forms[name]
    if form[0] == "raise":
        start = heights[form[1]]
        for j in range(form[3]):
            heights[form[1]] = start + (form[2] - start) * j // form[3]
            yield []
        heights[form[1]] = form[2]
    elif form[0] == "hold":
        for j in range(form[1]):
            yield []
    elif form[0] == "ring":
        for j in range(form[2]):
            yield [form[1]] if j == 0 else []
    elif form[0] == "row":
        for other in form[1]:
            yield from beats_of(forms, other, heights)
    elif form[0] == "again":
        for turn in range(form[1]):
            yield from beats_of(forms, form[2], heights)
    else:
        yield from beats_of_side([beats_of(forms, other, heights) for other in form[1]])


def beats_of_side(playing):
    while True:
        rung = [next(one, None) for one in playing]
        playing = [one for one, words in zip(playing, rung) if words is not None]
        if not playing:
            return
        yield [word for words in rung if words is not None for word in words]


# The heights at which the part leaves the limbs that it moves.
def end_by(book, name):
    heights = dict(book[0])
    for words in beats_of(forms_of(book), name, heights):
        pass
    left = list(heights.values())
    return [(limb, left[limb]) for limb in sorted(moved_by(book, name))]


# The whole play: tuples (heights, words) from beat 0 to its end.
def play_by(book):
    heights = dict(book[0])
    found = []
    for words in beats_of(forms_of(book), book[1][-1][0], heights):
        found.append((list(heights.values()), words))
    return found + [(list(heights.values()), [])]


# Numbers that follow no plain rule, but are the same each time.
class Drawn:
    def __init__(self, salt):
        self.state = salt * 7919 + 17

    def below(self, many):
        self.state = (self.state * 6364136223846793005 + 1442695040888963407) % 2 ** 64
        return (self.state >> 33) % many

    def one(self, among):
        return among[self.below(len(among))]


def named(number):
    return "".join("abcdefghij"[int(figure)] for figure in str(number))


# So many rows of parts: the first one tells its form, in the form of each other one AHEAD is the part ahead of it.
def chain(first, form, count, begin=0):
    names = [named(number) for number in range(begin, begin + count)]
    rows = [f"part {names[0]} {first}"]
    rows += [f"part {name} {form.replace('AHEAD', ahead)}" for ahead, name in zip(names, names[1:])]
    return "\n".join(rows)


# Raises of each limb, and rows in which one limb goes up and down with rings and holds between.
def plain_forms(drawn, limbs):
    forms = [("hold", 1 + drawn.below(4))]
    forms += [("ring", word, 1 + drawn.below(3)) for word in ("ding", "dong", "cuckoo")]
    for name, height in limbs:
        first = len(forms)
        forms += [("raise", name, drawn.below(20), 1 + drawn.below(7)) for place in range(2)]
        among = [named(number) for number in (0, 1, 2, 3, first, first + 1)]
        middle = tuple(drawn.one(among) for place in range(drawn.below(6)))
        forms.append(("row", (named(drawn.below(4)),) + middle + (named(first),)))
    return forms


# The later a part stands, the likelier it is named.
def drawn_name(drawn, parts):
    return parts[max(drawn.below(len(parts)), drawn.below(len(parts)))][0]


def drawn_form(drawn, parts, moves):
    kind = drawn.one(("row", "row", "side", "side", "side", "again"))
    if kind == "row":
        return (kind, tuple(drawn_name(drawn, parts) for place in range(1 + drawn.below(4))))
    chosen = []
    for place in range(12):
        name = drawn_name(drawn, parts)
        if len(chosen) < 4 and moves[name] and not any(moves[name] & moves[other] for other in chosen):
            chosen.append(name)
    if kind == "side" and len(chosen) > 1:
        return (kind, tuple(chosen))
    return ("again", 1 + drawn.below(4), drawn_name(drawn, parts))


# A sound book whose play lasts 300 beats at most; what a salt makes is always the same.
def drawn_book(salt):
    drawn = Drawn(salt)
    limbs = [(named(number), drawn.below(20)) for number in range(1 + drawn.below(8))]
    parts = [(named(number), form) for number, form in enumerate(plain_forms(drawn, limbs))]
    moves = {name: moved_by((limbs, parts), name) for name, form in parts}
    for number in range(len(parts), len(parts) + 1 + drawn.below(24)):
        name = named(number)
        form = drawn_form(drawn, parts, moves)
        if length_by((limbs, parts + [(name, form)]), name) > 300:
            form = ("again", 2, named(drawn.below(4)))
        parts.append((name, form))
        moves[name] = moved_by((limbs, parts), name)
    return (limbs, parts)


def drawn_books():
    return [drawn_book(salt) for salt in range(150)]
