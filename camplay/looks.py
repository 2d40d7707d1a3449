"""Looks at a book: the limbs that its parts move, their lengths, and the heights at which they leave limbs [8] [9]."""

from camplay.books import names_in, numbers_of
from camplay.errors import Idle, TooLong, TwoHands


# For each part the list of the numbers of the parts that it names, each as often as it is named.
def inner(book):
    numbers = numbers_of(book[1])
    found = []
    for name, form in book[1]:
        found.append([numbers[other] for other in names_in(form)])
    return found


# What is named later overrules what is named ahead: so it is in a row, and the parts of a side have
# no limb in common. In a book that is not sound they may have one; which limbs are moved is right there too.
def ends(book):
    limbs = numbers_of(book[0])
    found = []
    for part, inside in zip(book[1], inner(book)):
        form = part[1]
        left = {}
        if form[0] == "raise":
            left[limbs[form[1]]] = form[2]
        for other in inside:
            left.update(dict(found[other]))
        found.append(sorted(left.items()))
    return found


def moved(book):
    found = []
    for left in ends(book):
        found.append([limb for limb, height in left])
    return found


# The moves are those of the parts that the side names.
def check_side(row, moves, limbs):
    if [] in moves:
        raise Idle(row)
    for number, limb in enumerate(limbs):
        if len([True for move in moves if number in move]) > 1:
            raise TwoHands(row, limb[0])


def length_of(form, inside):
    if form[0] == "row":
        return sum(inside)
    if form[0] == "side":
        return max(inside)
    if form[0] == "again":
        return form[1] * inside[0]
    return form[-1]


def lengths(book):
    moves = moved(book)
    found = []
    for row, inside in enumerate(inner(book)):
        form = book[1][row][1]
        if form[0] == "side":
            check_side(row, [moves[part] for part in inside], book[0])
        length = length_of(form, [found[part] for part in inside])
        if length > 10 ** 60:
            raise TooLong(row)
        found.append(length)
    return found
