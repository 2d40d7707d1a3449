"""Books made to drums, of which like ones are made once, and read back [17] [18]."""

from camplay.books import names_in, numbers_of

FIGURES = "abcdefghijklmnopqrstuvwxyz"


# The form with what limbs and parts tell in the place of its limb and of the parts that it names.
def form_with(form, limbs, parts):
    if form[0] == "raise":
        return (form[0], limbs[form[1]]) + form[2:]
    if form[0] == "again":
        return (form[0], form[1], parts[form[2]])
    if form[0] in ("row", "side"):
        return (form[0], tuple([parts[other] for other in form[1]]))
    return form


# The forms of the drums that all parts come to, and the number of the play's drum.
def made(book):
    limbs = numbers_of(book[0])
    numbers = {}
    known = {}
    for name, form in book[1]:
        numbers[name] = known.setdefault(form_with(form, limbs, numbers), len(known))
    return (list(known), numbers[book[1][-1][0]])


# The numbers of the drums that a drum comes to, its own too, rising. Each drum holds numbers of earlier
# ones alone: so, from it on back, what is needed is known when it is come to.
def come_to(forms, drum):
    needed = {drum: True}
    for number in range(drum, -1, -1):
        if number in needed:
            for other in names_in(forms[number]):
                needed[other] = True
    return sorted(needed)


# Parts that the play does not name are made to drums too, as a like one that it names keeps their place.
def drums(book):
    found = made(book)
    forms = found[0]
    kept = come_to(forms, found[1])
    limbs = list(range(len(book[0])))
    anew = {}
    for place, number in enumerate(kept):
        anew[number] = place
    return (list(book[0]), [form_with(forms[number], limbs, anew) for number in kept])


def name_of(number):
    name = FIGURES[number % 26]
    while number >= 26:
        number = number // 26
        name = FIGURES[number % 26] + name
    return name


def book_of(box):
    limbs = [name for name, height in box[0]]
    names = [name_of(number) for number in range(len(box[1]))]
    return (list(box[0]), [(name, form_with(form, limbs, names)) for name, form in zip(names, box[1])])
