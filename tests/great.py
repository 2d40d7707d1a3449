# A number of just so many figures, another one for each salt; made of powers, so that its figures follow no plain rule.
def figures(count, salt):
    number = 3 ** (3 * count) * (2 * salt + 1) + 7 ** count * salt + salt
    return int(str(number)[:count])
