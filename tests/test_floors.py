import itertools
import unittest

from camplay.floors import floor_sum
from great import figures


def one_by_one(many, top, plus, bottom):
    return sum((top * j + plus) // bottom for j in range(many))


class SmallSums(unittest.TestCase):
    def test_terms_told_by_hand(self):
        self.assertEqual(floor_sum(4, 3, 1, 2), 0 + 2 + 3 + 5)
        self.assertEqual(floor_sum(3, -1, 0, 2), 0 - 1 - 1)
        self.assertEqual(floor_sum(2, 0, -1, 10), -2)
        self.assertEqual(floor_sum(1, 1000, 17, 5), 3)

    def test_against_the_terms_one_by_one(self):
        around = range(-9, 10)
        for many, top, plus, bottom in itertools.product(range(8), around, around, range(1, 8)):
            self.assertEqual(floor_sum(many, top, plus, bottom), one_by_one(many, top, plus, bottom),
                             (many, top, plus, bottom))

    def test_longer_sums_against_the_terms(self):
        for many, top, plus, bottom in itertools.product(
                (50, 101, 377), (-1000, -55, -34, 0, 34, 55, 1000), (-1001, -1, 0, 1, 1001), (1, 2, 89, 100)):
            self.assertEqual(floor_sum(many, top, plus, bottom), one_by_one(many, top, plus, bottom),
                             (many, top, plus, bottom))

    def test_no_term_is_zero(self):
        for top, plus, bottom in itertools.product((-5, 0, 5, 10 ** 199), (-7, 0, 7), (1, 3, 10 ** 199)):
            self.assertEqual(floor_sum(0, top, plus, bottom), 0)


class GreatSums(unittest.TestCase):
    def cases(self):
        for count in (60, 200):
            self.assertEqual(len(str(figures(count, 1))), count)
            tops = (figures(count, 2), -figures(count, 3), 0, 1, -1, figures(count // 2, 4))
            pluses = (figures(count, 5), -figures(count, 6), 0)
            bottoms = (figures(count, 7), 1, figures(count // 2, 8))
            for top, plus, bottom in itertools.product(tops, pluses, bottoms):
                yield figures(count, 1), top, plus, bottom

    def test_one_more_term_adds_just_that_term(self):
        for many, top, plus, bottom in self.cases():
            for j in (many - 1, many, many // 2):
                grown = floor_sum(j + 1, top, plus, bottom) - floor_sum(j, top, plus, bottom)
                self.assertEqual(grown, (top * j + plus) // bottom, (j, top, plus, bottom))

    def test_the_sum_is_that_of_its_two_shares(self):
        for many, top, plus, bottom in self.cases():
            ahead = many // 3
            shares = floor_sum(ahead, top, plus, bottom) + floor_sum(many - ahead, top, plus + top * ahead, bottom)
            self.assertEqual(floor_sum(many, top, plus, bottom), shares)

    def test_nothing_is_rounded_by_bottom_one(self):
        for many, top, plus, bottom in self.cases():
            self.assertEqual(floor_sum(many, top, plus, 1), top * (many * (many - 1) // 2) + plus * many)

    def test_terms_that_grow_by_one_every_bottom(self):
        bottom = figures(100, 1)
        turns = figures(100, 2)
        self.assertEqual(floor_sum(bottom * turns, 1, 0, bottom), bottom * (turns * (turns - 1) // 2))

    def test_numbers_for_which_the_shrinking_is_slowest(self):
        small = 1
        great = 1
        while len(str(great)) < 200:
            small, great = great, small + great
        many = great - 1
        grown = floor_sum(many + 1, small, small, great) - floor_sum(many, small, small, great)
        self.assertEqual(grown, (small * many + small) // great)
        # small and great have no divisor in common, so over a whole turn each rest comes once
        self.assertEqual(floor_sum(great, small, 0, great), (small - 1) * (great - 1) // 2)


if __name__ == "__main__":
    unittest.main()
