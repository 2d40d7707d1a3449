import copy
import unittest

from camplay.books import read
from camplay.errors import NoBeat
from camplay.ever import rings_ever, stand_ever
from camplay.looks import lengths
from camplay.standing import rings, stand
from plays import (CHIMES, GREAT, HOP, LIMBS, SMALL, Turns, chain, drawn_books, many_heights, often, plays_by,
                   side_by_side, soon, utmost_book)


def asked(book, beat):
    return (stand_ever(book, beat), rings_ever(book, beat))


def small_books():
    return [read(text) for text in SMALL] + drawn_books()


class Near(unittest.TestCase):
    # The leg stays where the first play leaves it: from 1 no raise to 1 moves it any more.
    def test_told_by_hand(self):
        book = read("limbs arm 0 leg 5\npart up raise arm 4 2\npart bell ring ding 1\npart down raise arm 2 1\n"
                    "part step raise leg 1 2\npart a row up bell down\npart b row bell step\npart c side a b")
        self.assertEqual([asked(book, beat) for beat in range(9)], [
            ([0, 5], ["ding"]), ([2, 5], []), ([4, 3], ["ding"]), ([4, 1], []),
            ([2, 1], ["ding"]), ([3, 1], []), ([4, 1], ["ding"]), ([4, 1], []), ([2, 1], ["ding"])])

    def test_one_ramp(self):
        book = read(LIMBS + "part a raise leg 3 2")
        self.assertEqual([stand_ever(book, beat) for beat in range(6)], [[0, 5], [0, 4]] + [[0, 3]] * 4)
        book = read(LIMBS + "part a raise arm 8 4\npart b raise arm 4 2\npart c row a b")
        self.assertEqual([stand_ever(book, beat)[0] for beat in range(19)],
                         [0, 2, 4, 6, 8, 6, 4, 5, 6, 7, 8, 6, 4, 5, 6, 7, 8, 6, 4])

    # At the end of a play the words are those of the new begin, which the play told once does not have.
    def test_the_end_is_the_new_begin(self):
        book = read(LIMBS + "part a ring ding 3")
        self.assertEqual([rings_ever(book, beat) for beat in range(8)],
                         [["ding"], [], [], ["ding"], [], [], ["ding"], []])
        self.assertEqual(rings(book, 3), [])
        book = read(CHIMES)
        last = lengths(book)[-1]
        for plays in (1, 2, 3, 10 ** 60):
            self.assertEqual(rings_ever(book, plays * last), ["ding", "ding"])
            self.assertEqual(stand_ever(book, plays * last), stand(book, last))

    def test_each_form_and_made_books(self):
        for book in small_books()[:60]:
            play = plays_by(book, 3)
            for beat, pair in enumerate(play[:-1]):
                self.assertEqual(asked(book, beat), pair, (book, beat))
            self.assertEqual(stand_ever(book, len(play) - 1), play[-1][0])

    # There are made books whose second play goes otherwise than their first one, and the third as the second.
    def test_the_books_are_not_dull(self):
        other = 0
        for book in small_books():
            play = plays_by(book, 3)
            size = len(play) // 3
            other += play[:size] != play[size:2 * size]
            self.assertEqual(play[size:2 * size], play[2 * size:-1])
        self.assertGreater(other, 100)

    def test_the_first_play_is_the_play(self):
        for book in small_books()[::5]:
            last = lengths(book)[-1]
            for beat in range(last):
                self.assertEqual(asked(book, beat), (stand(book, beat), rings(book, beat)))
            self.assertEqual(stand_ever(book, last), stand(book, last))

    def test_kinds(self):
        book = read(HOP.strip())
        for beat in (0, 5, 12, 13, 10 ** 60):
            self.assertEqual([type(one) for one in asked(book, beat)], [list, list])


class Far(unittest.TestCase):
    def test_each_later_play_is_like_the_second_one(self):
        for book in small_books():
            play = plays_by(book, 2)
            size = len(play) // 2
            for plays in (1, 2, 10 ** 9, 10 ** 60, 10 ** 199 // size):
                for gone in {0, 1 % size, size // 2, size - 1}:
                    beat = plays * size + gone
                    self.assertEqual(soon(asked, book, beat), play[size + gone], (book, beat))

    # Where the play is long itself; how the turns of its own go on is told by its first two.
    def test_long_plays(self):
        for base in [read(text) for text in SMALL[::2]] + drawn_books()[:12]:
            for book in (often(base, (3,)), often(base, (GREAT, 7)), utmost_book(base)):
                turns = Turns(base, book)
                for beat in turns.beats()[:-1]:
                    self.assertEqual(soon(asked, book, beat), turns.at(beat))
                    later = turns.two[turns.size + beat % turns.size]
                    for plays in (1, 2, 10 ** 60 + 1):
                        self.assertEqual(soon(asked, book, plays * turns.last + beat), later)

    def test_chains(self):
        for text in (LIMBS + chain("raise arm 7 3", "row AHEAD AHEAD", 60), many_heights(), side_by_side(),
                     LIMBS + chain("ring ding 3", "row" + " AHEAD" * 8, 60)):
            book = read(text)
            last = lengths(book)[-1]
            for plays in (1, 10 ** 60):
                for beat in (0, 1, last // 3, last - 1):
                    heights, words = soon(asked, book, plays * last + beat)
                    self.assertEqual(words, rings(book, beat))
                    after = ([(limb[0], height) for limb, height in zip(book[0], stand(book, last))], book[1])
                    self.assertEqual(heights, stand(after, beat))


class Refused(unittest.TestCase):
    def test_no_beat_below_0(self):
        for book in small_books()[::9] + [utmost_book(read(HOP.strip()))]:
            last = lengths(book)[-1]
            for beat in (-1, -2, -last, -last - 1, -2 * last, -10 ** 60, -10 ** 199):
                self.assertRaises(NoBeat, stand_ever, book, beat)
                self.assertRaises(NoBeat, rings_ever, book, beat)


class Owning(unittest.TestCase):
    def test_what_is_handed_in_stays(self):
        for book in drawn_books()[:40]:
            before = copy.deepcopy(book)
            for beat in (0, 1, lengths(book)[-1], 10 ** 60):
                asked(book, beat)
                self.assertEqual(book, before)

    def test_lists_that_were_told_are_the_askers_own(self):
        for book in drawn_books()[:40]:
            before = copy.deepcopy(book)
            for beat in (0, 1, lengths(book)[-1], 10 ** 60):
                found = asked(book, beat)
                as_told = copy.deepcopy(found)
                found[0][0] += 1
                found[0].append(9)
                found[1].append("more")
                self.assertEqual(asked(book, beat), as_told)
                self.assertEqual(book, before)


if __name__ == "__main__":
    unittest.main()
