import copy
import unittest

from camplay.books import read
from camplay.counting import height_count, ring_count
from camplay.errors import NoBeat
from camplay.finding import first_at, ring_beat
from camplay.looks import lengths
from camplay.standing import rings, stand
from plays import (CHIMES, GREAT, HOP, LIMBS, SMALL, Drawn, Turns, chain, drawn_books, far_book, many_heights, play_by,
                   side_by_side, soon, utmost_book)

WORDS = ("ding", "dong", "cuckoo", "gong")


def length_of(book):
    return lengths(book)[-1]


# The beats of all rings of a word, and None twice behind the last one.
def rung_by(play, word):
    return [beat for beat, pair in enumerate(play) for one in pair[1] if one == word] + [None, None]


def first_by(column, height, beat):
    return next((place for place in range(beat, len(column)) if column[place] == height), None)


class Rings(unittest.TestCase):
    def same(self, book):
        play = play_by(book)
        for word in WORDS:
            beats = rung_by(play, word)
            self.assertEqual([ring_beat(book, word, number) for number in range(len(beats))], beats, (book, word))

    def test_by_hand(self):
        book = read(LIMBS + "part bell ring ding 3\npart gong ring dong 1\npart a row bell gong bell\npart p again 2 a")
        self.assertEqual([ring_beat(book, "ding", number) for number in range(5)], [0, 4, 7, 11, None])
        self.assertEqual([ring_beat(book, "dong", number) for number in range(3)], [3, 10, None])
        self.assertIsNone(ring_beat(book, "bell", 0))

    def test_words_rung_at_one_beat(self):
        book = read(CHIMES)
        self.assertEqual([ring_beat(book, "ding", number) for number in range(9)], [0, 0, 3, 3, 5, 5, 8, 8, None])
        self.assertEqual([ring_beat(book, "dong", number) for number in range(5)], [2, 4, 7, 9, None])

    def test_small_books_of_each_form(self):
        for text in SMALL:
            self.same(read(text))

    def test_made_books(self):
        for book in drawn_books()[:70]:
            self.same(book)

    def test_the_number_left_out(self):
        book = read(LIMBS + "part wait hold 3\npart bell ring ding 2\npart p row wait bell bell")
        self.assertEqual(ring_beat(book, "ding"), 3)
        self.assertEqual(ring_beat(book=book, word="ding", number=1), 5)
        self.assertIsNone(ring_beat(book, "dong"))

    # A ring of a part that the play does not name is rung at no beat.
    def test_a_word_that_nobody_rings(self):
        for text in SMALL:
            book = read(text)
            for word in ("gong", "bell", "arm"):
                for number in (0, 1, 10 ** 80):
                    self.assertIsNone(ring_beat(book, word, number))
        self.assertIsNone(ring_beat(read(LIMBS + "part bell ring ding 1\npart p hold 2"), "ding"))

    def test_nothing_behind_the_last_one(self):
        book = read(LIMBS + f"part a ring ding 1\npart b again {GREAT} a")
        self.assertEqual(ring_beat(book, "ding", GREAT - 1), GREAT - 1)
        for number in (GREAT, GREAT + 1, 10 ** 60, 10 ** 100):
            self.assertIsNone(ring_beat(book, "ding", number))

    # They are numbered from 0 on.
    def test_nothing_ahead_of_the_first_one(self):
        self.assertIsNone(ring_beat(read(CHIMES), "ding", -1))


class Heights(unittest.TestCase):
    def same(self, book, limb, heights):
        column = [found[limb] for found, words in play_by(book)]
        for height in heights or range(-1, max(column) + 2):
            found = [first_at(book, book[0][limb][0], height, beat) for beat in range(len(column))]
            self.assertEqual(found, [first_by(column, height, beat) for beat in range(len(column))], (book, height))

    def test_by_hand(self):
        book = read("limbs arm 10\npart down raise arm 0 3\npart wait hold 2\npart up raise arm 3 1\n"
                    "part play row down wait up")
        self.assertEqual([first_at(book, "arm", 10, beat) for beat in range(7)], [0] + [None] * 6)
        self.assertEqual([first_at(book, "arm", 3, beat) for beat in range(7)], [2, 2, 2, 6, 6, 6, 6])
        self.assertEqual([first_at(book, "arm", 0, beat) for beat in range(7)], [3, 3, 3, 3, 4, 5, None])
        self.assertEqual([first_at(book, "arm", 5, beat) for beat in range(7)], [None] * 7)

    # Only at the end, at the beat L, the limb comes to its goal.
    def test_the_end_counts(self):
        book = read(LIMBS + "part up raise arm 4 4")
        self.assertEqual(first_at(book, "arm", 4), 4)
        self.assertEqual(first_at(book, "arm", 4, 4), 4)
        self.assertEqual(first_at(book, "leg", 5, 4), 4)
        self.assertIsNone(first_at(book, "arm", 3, 4))
        # The raise is over then: what it would come to behind its end does not count.
        self.assertIsNone(first_at(book, "arm", 5))
        self.assertIsNone(first_at(read("limbs arm 4\npart down raise arm 1 3"), "arm", 0))

    def test_the_first_turn_of_an_again_begins_at_another_height(self):
        book = read("limbs arm 9\npart up raise arm 4 2\npart down raise arm 1 1\npart a row up down\n"
                    f"part play again {GREAT} a")
        self.assertEqual([first_at(book, "arm", 6, beat) for beat in (0, 1, 2)], [1, 1, None])
        self.assertEqual((first_at(book, "arm", 2), first_at(book, "arm", 2, 5)), (4, 7))
        self.assertEqual(first_at(book, "arm", 2, 3 * GREAT - 2), 3 * GREAT - 2)
        self.assertIsNone(first_at(book, "arm", 2, 3 * GREAT - 1))
        self.assertEqual(first_at(book, "arm", 1, 3 * GREAT - 1), 3 * GREAT)

    def test_small_books_of_each_form(self):
        for text in SMALL:
            book = read(text)
            for limb in range(len(book[0])):
                self.same(book, limb, None)

    def test_made_books(self):
        for salt, book in enumerate(drawn_books()[60:120]):
            limb = salt % len(book[0])
            column = [found[limb] for found, words in play_by(book)]
            self.same(book, limb, sorted(set(column))[salt % 4::9] + [77])

    def test_the_beat_left_out(self):
        book = read(LIMBS + "part up raise arm 4 4\npart down raise arm 0 4\npart p row up down")
        self.assertEqual(first_at(book, "arm", 3), 3)
        self.assertEqual(first_at(book=book, limb="arm", height=3, beat=4), 5)
        self.assertEqual(first_at(book, "arm", 0), 0)

    def test_none_below_0_and_none_behind_the_end(self):
        texts = SMALL + (HOP + f"part p again {GREAT} hop", LIMBS + chain("raise arm 2 1", "again 10 AHEAD", 60))
        for text in texts:
            book = read(text)
            name = book[0][0][0]
            last = length_of(book)
            for beat in (-1, -2, -last - 1, -10 ** 61, last + 1, last + 2, 10 ** 61):
                for height in (book[0][0][1], 9, 77):
                    with self.assertRaises(NoBeat, msg=beat):
                        first_at(book, name, height, beat)
            self.assertEqual(first_at(book, name, stand(book, last)[0], last), last)
            self.assertIsNone(first_at(book, name, 77, last))

    def test_a_height_at_which_no_limb_ever_stands(self):
        for text in SMALL:
            book = read(text)
            for height in (-1, -GREAT, 77, 10 ** 80):
                self.assertIsNone(first_at(book, book[0][0][0], height))


class FarBeats(unittest.TestCase):
    def rings_of_turns(self, base, book):
        turns = Turns(base, book)
        for word in WORDS:
            beats = rung_by(turns.two[:turns.size], word)[:-2]
            many = turns.last // turns.size * len(beats)
            for number in (0, 1, many // 2, many // 7 * 3, many - 1) if beats else ():
                beat = number // len(beats) * turns.size + beats[number % len(beats)]
                self.assertEqual(soon(ring_beat, book, word, number), beat, (book, word))
            for number in (many, many + 1):
                self.assertIsNone(soon(ring_beat, book, word, number))

    # A height that is not met in two turns is met in none behind them.
    def heights_of_turns(self, base, book):
        turns = Turns(base, book)
        limb = len(book[0]) // 2
        heights = sorted({found[limb] for found, words in turns.two})
        for beat in turns.beats():
            behind = range(beat, min(beat + 2 * turns.size, turns.last) + 1)
            for height in heights[::4] + [77]:
                found = next((one for one in behind if turns.at(one)[0][limb] == height), None)
                self.assertEqual(soon(first_at, book, book[0][limb][0], height, beat), found, (book, beat, height))

    def test_made_books_turn_by_turn(self):
        for base in drawn_books()[:20] + [read(HOP.strip())]:
            for make in (far_book, utmost_book):
                self.rings_of_turns(base, make(base))
                self.heights_of_turns(base, make(base))

    def test_each_of_sixty_names_the_one_ahead(self):
        for form, size in (("row" + " AHEAD" * 8, 8), ("again 10 AHEAD", 10)):
            last = size ** 59
            book = read(LIMBS + chain("ring ding 1", form, 60))
            for number in (0, 1, last // 3, last - 1):
                self.assertEqual(soon(ring_beat, book, "ding", number), number)
            self.assertIsNone(soon(ring_beat, book, "ding", last))
            book = read(LIMBS + chain("raise leg 0 3", form, 60))
            found = [soon(first_at, book, "leg", height) for height in (5, 3, 1, 0, 4)]
            self.assertEqual(found, [0, 1, 2, 3, None])
            for beat in (last // 7, 3 * last):
                self.assertEqual(soon(first_at, book, "leg", 0, beat), beat)
                self.assertIsNone(soon(first_at, book, "leg", 5, beat))

    # A height that is met at the very end alone, behind nearly all beats.
    def test_behind_a_long_play(self):
        book = utmost_book(read(HOP.strip()))
        parts = book[1][:-1] + [("top", ("raise", "arm", GREAT, 7)), ("gong", ("ring", "gong", 1)),
                                ("end", ("row", (book[1][-2][0], "gong", "top")))]
        book = (book[0], parts)
        last = length_of(book)
        self.assertEqual(last, 12 * 10 ** 54 + 8)
        self.assertEqual(soon(first_at, book, "arm", GREAT), last)
        self.assertEqual(soon(first_at, book, "arm", 1 + (GREAT - 1) * 3 // 7), last - 4)
        self.assertEqual(soon(ring_beat, book, "gong"), last - 8)
        self.assertIsNone(soon(ring_beat, book, "gong", 1))

    # What is told is a beat of it, and no earlier one is.
    def test_parts_that_begin_at_many_heights(self):
        book = read(many_heights())
        last = length_of(book)
        drawn = Drawn(9)
        for place in range(30):
            beat = last * drawn.below(10 ** 6) // 10 ** 6
            height = stand(book, last * drawn.below(10 ** 6) // 10 ** 6)[0]
            found = soon(first_at, book, "arm", height, beat)
            if found is None:
                found = last + 1
            else:
                self.assertEqual(stand(book, found)[0], height)
            self.assertEqual(height_count(book, "arm", height, found), height_count(book, "arm", height, beat))

    def test_long_chains_side_by_side(self):
        book = read(side_by_side())
        many = 8 * 8 ** 40
        self.assertEqual(soon(ring_beat, book, "ding", 0), 90)
        for number in (1, 50, many // 3, many // 2, many - 2, many - 1):
            beat = soon(ring_beat, book, "ding", number)
            self.assertIn("ding", rings(book, beat))
            self.assertLessEqual(ring_count(book, "ding", beat), number)
            self.assertGreater(ring_count(book, "ding", beat + 1), number)
        self.assertEqual(beat, length_of(book) - 1)
        self.assertIsNone(soon(ring_beat, book, "ding", many))


class Owning(unittest.TestCase):
    def test_what_is_handed_in_stays(self):
        for book in drawn_books()[:20] + [utmost_book(read(HOP.strip()))]:
            before = copy.deepcopy(book)
            for beat in (0, length_of(book) // 2, length_of(book)):
                for height in (3, book[0][0][1], 77):
                    first_at(book, book[0][0][0], height, beat)
            for number in (0, 5, GREAT):
                ring_beat(book, "ding", number)
            with self.assertRaises(NoBeat):
                first_at(book, book[0][0][0], 3, -1)
            self.assertEqual(book, before)

    # A book that is changed is another book: nothing told of the older one lives on.
    def test_a_book_that_is_changed_is_told_as_it_is_then(self):
        book = read(LIMBS + "part up raise arm 8 4\npart bell ring ding 1\npart play row up bell")
        self.assertEqual((first_at(book, "arm", 4), ring_beat(book, "ding")), (2, 4))
        book[0][0] = ("arm", 4)
        book[1][0] = ("up", ("raise", "arm", 0, 2))
        self.assertEqual((first_at(book, "arm", 4), first_at(book, "arm", 0), ring_beat(book, "ding")), (0, 2, 2))


if __name__ == "__main__":
    unittest.main()
