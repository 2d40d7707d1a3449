import copy
import unittest

from camplay.books import read
from camplay.counting import height_count, height_sum, ring_count
from camplay.errors import NoBeat
from camplay.looks import lengths
from camplay.ramps import ramp_count, ramp_sum
from camplay.standing import rings, stand
from plays import (CHIMES, GREAT, HOP, LIMBS, SMALL, Drawn, Turns, chain, drawn_books, far_book, many_heights, named,
                   play_by, side_by_side, soon, utmost_book)

WORDS = ("ding", "dong", "cuckoo", "gong")


def length_of(book):
    return lengths(book)[-1]


def sums(book, limb):
    return [height_sum(book, limb, beat) for beat in range(length_of(book) + 2)]


def counts(book, limb, height):
    return [height_count(book, limb, height, beat) for beat in range(length_of(book) + 2)]


def rung(book, word):
    return [ring_count(book, word, beat) for beat in range(length_of(book) + 2)]


# What is ahead of each beat of a play from 0 to the one behind its end.
def ahead(worths):
    return [sum(worths[:beat]) for beat in range(len(worths) + 1)]


class ByHand(unittest.TestCase):
    def test_a_raise(self):
        book = read("limbs arm 10\npart down raise arm 0 3")
        self.assertEqual(sums(book, "arm"), [0, 10, 16, 19, 19])
        self.assertEqual(counts(book, "arm", 3), [0, 0, 0, 1, 1])
        self.assertEqual(counts(book, "arm", 0), [0, 0, 0, 0, 1])
        self.assertEqual(counts(book, "arm", 10), [0, 1, 1, 1, 1])
        self.assertEqual(rung(book, "arm"), [0] * 5)

    def test_a_hold_and_a_ring(self):
        book = read(LIMBS + "part wait hold 2")
        self.assertEqual(sums(book, "leg"), [0, 5, 10, 15])
        self.assertEqual(sums(book, "arm"), [0, 0, 0, 0])
        self.assertEqual(counts(book, "leg", 5), [0, 1, 2, 3])
        self.assertEqual(counts(book, "arm", 0), [0, 1, 2, 3])
        self.assertEqual(counts(book, "arm", 5), [0, 0, 0, 0])
        book = read(LIMBS + "part bell ring ding 2")
        self.assertEqual(sums(book, "leg"), [0, 5, 10, 15])
        self.assertEqual(rung(book, "ding"), [0, 1, 1, 1])
        self.assertEqual(rung(book, "bell"), [0, 0, 0, 0])

    def test_a_limb_raised_more_than_once_in_a_row(self):
        book = read(LIMBS + "part up raise arm 4 2\npart bell ring ding 1\npart down raise arm 1 3\n"
                    "part play row up bell up down up")
        self.assertEqual(play_by(book)[-1][0], [4, 5])
        self.assertEqual(sums(book, "arm"), ahead([0, 2, 4, 4, 4, 4, 3, 2, 1, 2, 4]))
        self.assertEqual(counts(book, "arm", 4), ahead([0, 0, 1, 1, 1, 1, 0, 0, 0, 0, 1]))
        self.assertEqual(counts(book, "arm", 2), ahead([0, 1, 0, 0, 0, 0, 0, 1, 0, 1, 0]))
        self.assertEqual(rung(book, "ding"), ahead([0, 0, 1, 0, 0, 0, 0, 0, 0, 0, 0]))

    def test_the_first_turn_of_an_again_begins_at_another_height(self):
        book = read("limbs arm 9\npart up raise arm 4 2\npart down raise arm 1 1\npart a row up down\n"
                    "part play again 3 a")
        self.assertEqual(sums(book, "arm"), ahead([9, 6, 4, 1, 2, 4, 1, 2, 4, 1]))
        self.assertEqual(counts(book, "arm", 2), ahead([0, 0, 0, 0, 1, 0, 0, 1, 0, 0]))
        self.assertEqual(counts(book, "arm", 6), ahead([0, 1, 0, 0, 0, 0, 0, 0, 0, 0]))
        book = read("limbs arm 9\npart up raise arm 4 2\npart play again 3 up")
        self.assertEqual(sums(book, "arm"), ahead([9, 6, 4, 4, 4, 4, 4]))

    def test_a_side_whose_parts_are_over_at_unlike_beats(self):
        for names in ("up step", "step up"):
            book = read(LIMBS + "part up raise arm 4 4\npart step raise leg 1 2\npart both side " + names
                        + "\npart play row both both")
            self.assertEqual(sums(book, "arm"), ahead([0, 1, 2, 3, 4, 4, 4, 4, 4]))
            self.assertEqual(sums(book, "leg"), ahead([5, 3, 1, 1, 1, 1, 1, 1, 1]))
            self.assertEqual(counts(book, "leg", 1), ahead([0, 0, 1, 1, 1, 1, 1, 1, 1]))

    def test_a_word_rung_by_two_parts_of_a_side_at_one_beat(self):
        book = read(CHIMES)
        self.assertEqual(rung(book, "ding"), ahead([2, 0, 0, 2, 0, 2, 0, 0, 2, 0, 0]))
        self.assertEqual(rung(book, "dong"), ahead([0, 0, 1, 0, 1, 0, 0, 1, 0, 1, 0]))

    def test_a_height_and_a_word_that_are_nowhere(self):
        for text in SMALL:
            book = read(text)
            for limb, first in book[0]:
                for height in (-1, 21, 10 ** 18 + 1, 10 ** 80):
                    self.assertEqual(set(counts(book, limb, height)), {0})
            for word in ("gong", "bell", "arm", "a"):
                self.assertEqual(set(rung(book, word)), {0})

    # A height between two of a ramp is stepped over.
    def test_a_height_that_is_stepped_over(self):
        book = read(LIMBS + "part up raise arm 10 3\npart down raise arm 0 3\npart a row up down")
        self.assertEqual(play_by(book)[1][0][0], 3)
        for height in (1, 2, 4, 5, 7, 8, 9):
            self.assertEqual(counts(book, "arm", height), [0] * 8)

    def test_names_of_the_arguments(self):
        book = read("limbs arm 3\npart bell ring ding 2")
        self.assertEqual(height_sum(book=book, limb="arm", beat=2), 6)
        self.assertEqual(height_count(book=book, limb="arm", height=3, beat=2), 2)
        self.assertEqual(ring_count(book=book, word="ding", beat=2), 1)

    # The words for a limb and for a part do not meet.
    def test_parts_called_as_limbs_are(self):
        book = read("limbs arm 0 leg 5\npart arm raise leg 6 1\npart leg ring arm 2\npart ding row arm leg")
        self.assertEqual(sums(book, "arm"), [0] * 5)
        self.assertEqual(sums(book, "leg"), [0, 5, 11, 17, 23])
        self.assertEqual(rung(book, "arm"), [0, 0, 1, 1, 1])


class EachBeat(unittest.TestCase):
    def same(self, book, limbs, heights):
        play = play_by(book)
        for number in limbs:
            limb = book[0][number][0]
            column = [found[number] for found, words in play]
            self.assertEqual(sums(book, limb), ahead(column), book)
            for height in heights or range(-1, max(column) + 2):
                self.assertEqual(counts(book, limb, height), ahead([one == height for one in column]), (book, height))
        for word in WORDS:
            self.assertEqual(rung(book, word), ahead([words.count(word) for found, words in play]), (book, word))

    def test_small_books_of_each_form(self):
        for text in SMALL:
            book = read(text)
            self.same(book, range(len(book[0])), None)

    def test_made_books(self):
        for salt, book in enumerate(drawn_books()[:60]):
            limb = salt % len(book[0])
            column = [found[limb] for found, words in play_by(book)]
            self.same(book, [limb], sorted(set(column))[salt % 3::7])


class Beats(unittest.TestCase):
    def refused(self, book, beat):
        with self.assertRaises(NoBeat, msg=beat):
            height_sum(book, book[0][0][0], beat)
        with self.assertRaises(NoBeat, msg=beat):
            height_count(book, book[0][0][0], 1, beat)
        for word in ("ding", "nothing"):
            with self.assertRaises(NoBeat, msg=beat):
                ring_count(book, word, beat)

    def test_none_below_0_and_none_two_behind_the_end(self):
        texts = SMALL + (LIMBS + chain("raise leg 2 1", "row" + " AHEAD" * 8, 60), HOP + f"part p again {GREAT} hop")
        for text in texts:
            book = read(text)
            last = length_of(book)
            for beat in (-1, -2, -last, -last - 1, -10 ** 61, last + 2, last + 3, 2 * last + 2, 10 ** 61, 10 ** 80):
                self.refused(book, beat)

    def test_the_beat_behind_the_end(self):
        for text in SMALL + (HOP + f"part p again {GREAT} hop",):
            book = read(text)
            last = length_of(book)
            for place, limb in enumerate(book[0]):
                name = limb[0]
                end = stand(book, last)[place]
                self.assertEqual(height_sum(book, name, last + 1) - height_sum(book, name, last), end)
                for height in (end, end + 1):
                    more = height_count(book, name, height, last + 1) - height_count(book, name, height, last)
                    self.assertEqual(more, 1 if height == end else 0)
            self.assertEqual(ring_count(book, "ding", last + 1), ring_count(book, "ding", last))

    def test_the_beat_0(self):
        for text in SMALL:
            book = read(text)
            for limb, first in book[0]:
                self.assertEqual(height_sum(book, limb, 0), 0)
                self.assertEqual(height_count(book, limb, first, 0), 0)
                self.assertEqual(height_count(book, limb, first, 1), 1)
            self.assertEqual(ring_count(book, "ding", 0), 0)

    def test_a_length_of_just_the_bound(self):
        book = read(LIMBS + f"part up raise arm {GREAT} {10 ** 6}\npart a again {GREAT} up\npart b again {GREAT} a\n"
                    f"part c again {GREAT} b")
        last = 10 ** 60
        self.assertEqual(length_of(book), last)
        climb = sum(j * 10 ** 12 for j in range(10 ** 6))
        self.assertEqual(height_sum(book, "arm", last + 1), climb + (last + 1 - 10 ** 6) * GREAT)
        self.assertEqual(height_count(book, "arm", GREAT, last + 1), last + 1 - 10 ** 6)
        self.assertEqual(height_count(book, "leg", 5, last), last)
        self.refused(book, last + 2)


class FarBeats(unittest.TestCase):
    # From each beat to the next the counts grow by what the beat tells.
    def grows(self, book, beats):
        for beat in beats:
            heights = stand(book, beat)
            words = rings(book, beat)
            for height, limb in zip(heights, book[0]):
                name = limb[0]
                more = soon(height_sum, book, name, beat + 1) - soon(height_sum, book, name, beat)
                self.assertEqual(more, height, (book, beat, name))
                for other in (height - 1, height, height + 1, limb[1]):
                    more = (soon(height_count, book, name, other, beat + 1)
                            - soon(height_count, book, name, other, beat))
                    self.assertEqual(more, 1 if other == height else 0, (book, beat, name, other))
            for word in WORDS:
                more = soon(ring_count, book, word, beat + 1) - soon(ring_count, book, word, beat)
                self.assertEqual(more, words.count(word), (book, beat, word))

    # The counts themselves, by those of the first two turns.
    def same_turns(self, base, book):
        turns = Turns(base, book)
        limb = len(book[0]) // 2
        name = book[0][limb][0]
        asked = [turns.at(turns.size + 1)[0][limb], book[0][limb][1]]
        for beat in turns.beats() + [turns.last + 1]:
            self.assertEqual(height_sum(book, name, beat), turns.ahead(lambda found, words: found[limb], beat))
            for height in asked:
                self.assertEqual(height_count(book, name, height, beat),
                                 turns.ahead(lambda found, words: found[limb] == height, beat))
            for word in WORDS:
                self.assertEqual(ring_count(book, word, beat),
                                 turns.ahead(lambda found, words: words.count(word), beat))

    def test_made_books_turn_by_turn(self):
        for base in drawn_books()[:25] + [read(HOP.strip())]:
            for make in (far_book, utmost_book):
                self.same_turns(base, make(base))

    def test_made_books_grow(self):
        for base in drawn_books()[25:35]:
            book = utmost_book(base)
            last = length_of(book)
            self.assertTrue(9 * 10 ** 59 < last <= 10 ** 60)
            self.grows(book, [0, 1, last // 3, last // 7 * 5, last - 1, last])

    def test_each_of_sixty_names_the_one_ahead(self):
        for form, size in (("row" + " AHEAD" * 8, 8), ("again 10 AHEAD", 10)):
            last = size ** 59
            book = read(LIMBS + chain("raise leg 0 1", form, 60))
            for beat in (1, last // 2, last, last + 1):
                self.assertEqual(soon(height_sum, book, "leg", beat), 5)
                self.assertEqual(soon(height_count, book, "leg", 0, beat), beat - 1)
            book = read(LIMBS + chain("ring ding 1", form, 60))
            for beat in (0, 1, last // 2, last):
                self.assertEqual(soon(ring_count, book, "ding", beat), beat)
            self.assertEqual(soon(ring_count, book, "ding", last + 1), last)

    # A part that is named often begins at one of two heights here: at the first one once alone.
    def test_a_long_climb_named_often(self):
        text = "limbs arm 7\n" + chain(f"raise arm {GREAT} {GREAT // 3}", "row" + " AHEAD" * 8, 48)
        book = read(text + f"\npart x raise arm 0 5\npart y row x {named(47)} x {named(0)} x")
        last = length_of(book)
        beats = GREAT // 3
        self.assertEqual(last, 15 + beats * (8 ** 47 + 1))
        fall = sum(GREAT - GREAT // 5 * j for j in range(5))
        first = sum([7, 5, 4, 2, 1])
        climb = ramp_sum(0, GREAT, beats, beats)
        self.assertEqual(soon(height_sum, book, "arm", last),
                         first + 2 * climb + (8 ** 47 - 1) * beats * GREAT + 2 * fall)
        once = ramp_count(0, GREAT, beats, 3, beats)
        self.assertEqual(once, 1)
        self.assertEqual(soon(height_count, book, "arm", 3, last + 1), 2 + [7, 5, 4, 2, 1].count(3))
        self.grows(book, [5 + beats // 2, last // 2, last - beats // 2, last - 1, last])

    def test_parts_that_begin_at_many_heights(self):
        book = read(many_heights())
        last = length_of(book)
        self.assertEqual(len(book[1]), 60)
        self.assertGreater(last, 10 ** 30)
        drawn = Drawn(3)
        self.grows(book, [last * drawn.below(10 ** 6) // 10 ** 6 for place in range(12)] + [0, last - 1, last])

    def test_long_chains_side_by_side(self):
        book = read(side_by_side())
        last = length_of(book)
        self.grows(book, [0, 40, last // 3, last - 100, last - 1, last])
        # Each of the eight rings its word as often as the first chain is long.
        self.assertEqual(soon(ring_count, book, "ding", last + 1), 8 * 8 ** 40)


class Owning(unittest.TestCase):
    def test_what_is_handed_in_stays(self):
        for book in drawn_books()[:20] + [utmost_book(read(HOP.strip()))]:
            before = copy.deepcopy(book)
            for beat in (0, 1, length_of(book) // 2, length_of(book) + 1):
                height_sum(book, book[0][0][0], beat)
                height_count(book, book[0][0][0], 3, beat)
                ring_count(book, "ding", beat)
                self.assertEqual(book, before)
            with self.assertRaises(NoBeat):
                height_sum(book, book[0][0][0], -1)
            self.assertEqual(book, before)

    # A book that is changed is another book: nothing told of the older one lives on.
    def test_a_book_that_is_changed_is_told_as_it_is_then(self):
        book = read(LIMBS + "part up raise arm 8 4\npart bell ring ding 1\npart play row up bell")
        self.assertEqual((height_sum(book, "arm", 5), ring_count(book, "ding", 5)), (20, 1))
        book[0][0] = ("arm", 4)
        book[1][0] = ("up", ("raise", "arm", 0, 2))
        self.assertEqual((height_sum(book, "arm", 4), height_count(book, "arm", 0, 4)), (6, 2))
        self.assertEqual((ring_count(book, "ding", 2), ring_count(book, "ding", 3)), (0, 1))


if __name__ == "__main__":
    unittest.main()
