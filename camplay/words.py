"""Words and numbers, as texts write them [4]."""

LETTERS = "abcdefghijklmnopqrstuvwxyz"
FIGURES = "0123456789"


# Python's own isdigit and islower take signs of other scripts too, and int takes blanks, signs
# ahead and underscores: so each sign is asked for by itself.
def all_among(text, signs):
    return all([sign in signs for sign in text])


def is_word(text):
    return 1 <= len(text) <= 8 and all_among(text, LETTERS)


def number_of(text, most=80):
    if not 1 <= len(text) <= most or not all_among(text, FIGURES):
        return None
    if text[0] == "0" and text != "0":
        return None
    return int(text)
