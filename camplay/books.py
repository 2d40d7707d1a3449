"""Books: read from their texts, and written again [5] [6] [7]."""

from camplay.errors import NoBook
from camplay.words import is_word, number_of

# What stands behind the word of a form; rows and sides are not here, as they name several parts.
FORMS = {
    "raise": ("limb", "height", "beats"),
    "hold": ("beats",),
    "ring": ("word", "beats"),
    "again": ("times", "part"),
}
FEWEST_NAMES = {"row": 1, "side": 2}
MOST_NAMES = {"row": 8, "side": 4}


# A name stands for its number where parts and limbs are told in order.
def numbers_of(named):
    numbers = {}
    for number, one in enumerate(named):
        numbers[one[0]] = number
    return numbers


# The names of parts that a form holds, each as often as it stands there.
def names_in(form):
    if form[0] in MOST_NAMES:
        return form[1]
    return form[2:] if form[0] == "again" else ()


# From here on None tells that what is read can't stand there.
def bounded(text, least):
    number = number_of(text, 19)
    if number is None or not least <= number <= 10 ** 18:
        return None
    return number


def value_of(wanted, text, limbs, parts):
    if wanted == "height":
        return bounded(text, 0)
    if wanted in ("beats", "times"):
        return bounded(text, 1)
    if wanted == "word":
        return text if is_word(text) else None
    known = limbs if wanted == "limb" else parts
    return text if text in known else None


def names_form(kind, words, parts):
    if not FEWEST_NAMES[kind] <= len(words) <= MOST_NAMES[kind]:
        return None
    if not all([word in parts for word in words]):
        return None
    return (kind, tuple(words))


def form_of(kind, words, limbs, parts):
    if kind in MOST_NAMES:
        return names_form(kind, words, parts)
    if kind not in FORMS or len(words) != len(FORMS[kind]):
        return None
    values = [value_of(wanted, word, limbs, parts) for wanted, word in zip(FORMS[kind], words)]
    return None if None in values else (kind,) + tuple(values)


def part_of(words, limbs, parts):
    if len(words) < 3 or words[0] != "part" or not is_word(words[1]) or words[1] in parts:
        return None
    form = form_of(words[2], words[3:], limbs, parts)
    return None if form is None else (words[1], form)


def limbs_of(words):
    names = words[1::2]
    heights = [bounded(word, 0) for word in words[2::2]]
    if words[0] != "limbs" or not 1 <= len(names) <= 8 or len(heights) != len(names) or None in heights:
        return None
    if not all([is_word(name) for name in names]) or len(set(names)) != len(names):
        return None
    return list(zip(names, heights))


def read(text):
    rows = text.split("\n")
    limbs = limbs_of(rows[0].split(" "))
    if limbs is None:
        raise NoBook(0)
    if len(rows) == 1:
        raise NoBook(1)
    limb_names = numbers_of(limbs)
    part_names = {}
    parts = []
    for row, line in enumerate(rows[1:], start=1):
        part = part_of(line.split(" "), limb_names, part_names)
        if part is None or row > 60:
            raise NoBook(row)
        part_names[part[0]] = True
        parts.append(part)
    return (limbs, parts)


def words_of(form):
    if form[0] in MOST_NAMES:
        return [form[0]] + list(form[1])
    return [str(value) for value in form]


def shown(book):
    words = ["limbs"]
    for name, height in book[0]:
        words.extend([name, str(height)])
    rows = [" ".join(words)]
    for name, form in book[1]:
        rows.append(" ".join(["part", name] + words_of(form)))
    return "\n".join(rows)
