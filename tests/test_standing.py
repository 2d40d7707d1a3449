import copy
import unittest

from camplay.books import read
from camplay.errors import NoBeat
from camplay.looks import ends, lengths
from camplay.standing import rings, stand
from camplay.telling import told
from plays import GREAT, HOP, LIMBS, SMALL, Turns, chain, drawn_books, far_book, named, play_by, soon

HOP_PARTS = 10


def asked(book, beat):
    return (stand(book, beat), rings(book, beat))


def length_of(book):
    return lengths(book)[-1]


class EachForm(unittest.TestCase):
    def same(self, text):
        book = read(text)
        found = told(book)
        self.assertEqual(found, play_by(book), text)
        for beat, pair in enumerate(found):
            self.assertEqual(asked(book, beat), pair, (text, beat))

    def test_told_by_hand(self):
        book = read(LIMBS + "part up raise arm 4 4\npart step raise leg 1 2\npart bell ring ding 1\n"
                    "part a row bell step bell\npart play side up a")
        self.assertEqual([asked(book, beat) for beat in range(5)],
                         [([0, 5], ["ding"]), ([1, 5], []), ([2, 3], []), ([3, 1], ["ding"]), ([4, 1], [])])

    def test_each_form(self):
        for text in SMALL:
            self.same(text)

    def test_made_books_at_every_beat(self):
        for book in drawn_books():
            for beat, pair in enumerate(play_by(book)):
                self.assertEqual(asked(book, beat), pair, (book, beat))

    def test_kinds(self):
        book = read(HOP.strip())
        for beat in (0, 5, 12):
            self.assertEqual([type(one) for one in asked(book, beat)], [list, list])


class Words(unittest.TestCase):
    def test_the_order_in_a_side(self):
        text = "limbs x 0 y 0 z 0\n" + "".join(
            f"part up{limb} raise {limb} 3 2\npart bell{limb} ring {limb} 1\npart {limb} row bell{limb} up{limb}\n"
            for limb in "xyz")
        self.assertEqual(rings(read(text + "part s side z x y"), 0), ["z", "x", "y"])
        self.assertEqual(rings(read(text + "part s side y z x"), 0), ["y", "z", "x"])
        book = read(text + "part s side y x\npart r row s\npart t side z r\npart u side r z\npart p row t u\n"
                    f"part w again {GREAT} p")
        self.assertEqual([rings(book, 6 * 10 ** 17 + beat) for beat in range(6)],
                         [["z", "y", "x"], [], [], ["y", "x", "z"], [], []])

    def test_nothing_is_rung_at_the_end(self):
        self.assertEqual(rings(read(LIMBS + "part a ring ding 1"), 1), [])
        self.assertEqual(rings(read(LIMBS + f"part a ring ding 1\npart b again {GREAT} a"), GREAT), [])
        self.assertEqual(rings(read(LIMBS + f"part a ring ding 1\npart b again {GREAT} a"), GREAT - 1), ["ding"])


class Beats(unittest.TestCase):
    def books(self):
        yield read(LIMBS + "part a hold 1")
        yield read(HOP.strip())
        yield read(HOP + f"part p again {GREAT} hop")
        yield read(LIMBS + chain("raise leg 2 1", "row" + " AHEAD" * 8, 60))

    def test_none_below_0_and_none_behind_the_end(self):
        for book in self.books():
            last = length_of(book)
            for beat in (-1, -2, -last, -last - 1, -10 ** 60, last + 1, last + 2, 2 * last + 1, 10 ** 61):
                for ask in (stand, rings):
                    with self.assertRaises(NoBeat, msg=beat):
                        ask(book, beat)

    def test_the_first_beat_and_the_end(self):
        for book in self.books():
            last = length_of(book)
            self.assertEqual(stand(book, 0), [height for name, height in book[0]])
            heights = [height for name, height in book[0]]
            for limb, height in ends(book)[-1]:
                heights[limb] = height
            self.assertEqual(asked(book, last), (heights, []))


class FarBeats(unittest.TestCase):
    # From its second turn on each turn of a part tells the same.
    def turn_of(self, text):
        play = play_by(read(text + "part zz again 2 " + text.split("\n")[-2].split(" ")[1]))
        size = len(play) // 2
        return play[size:2 * size]

    def places(self, size, last):
        near = [size, size + 1, last - 1, last - size, last // 2, last // 3, last // 7 * 5, last - last // 11 - 1]
        near += [(last // size // 13) * size + rest for rest in range(size)]
        return sorted({beat for beat in near if size <= beat < last})

    def same_turns(self, text, size):
        book = read(text)
        turn = self.turn_of(HOP)
        self.assertEqual(len(turn), size)
        for beat in self.places(size, length_of(book)):
            self.assertEqual(soon(asked, book, beat), turn[beat % size], beat)

    def test_agains_within_agains(self):
        text = HOP + f"part a again {GREAT} hop\npart b again {GREAT} a\npart c again {GREAT} b\n"
        self.assertEqual(length_of(read(text + "part d row c")), 12 * 10 ** 54)
        self.same_turns(text + "part d row c", 12)
        self.same_turns(text + "part d again 83333 c", 12)

    def test_rows_within_agains_within_rows_up_to_the_bound(self):
        text = HOP + (f"part a row hop hop hop hop hop\npart b again {GREAT} a\npart c row b hop b\n"
                      f"part d again {GREAT // 2} c\npart e row d b hop d\npart f again {GREAT // 10} e\n"
                      "part g row f e f d\npart h again 41000 g")
        self.assertTrue(9 * 10 ** 59 < length_of(read(text)) <= 10 ** 60)
        self.same_turns(text, 12)

    def test_a_length_of_just_the_bound(self):
        book = read(LIMBS + f"part up raise arm {GREAT} {10 ** 6}\npart a again {GREAT} up\npart b again {GREAT} a\n"
                    f"part c again {GREAT} b")
        self.assertEqual(length_of(book), 10 ** 60)
        self.assertEqual(stand(book, 3), [3 * 10 ** 12, 5])
        self.assertEqual(stand(book, 10 ** 60), [GREAT, 5])
        self.assertEqual(stand(book, 10 ** 60 - 1), [GREAT, 5])
        with self.assertRaises(NoBeat):
            stand(book, 10 ** 60 + 1)

    def test_each_of_sixty_names_the_one_ahead_eight_times(self):
        book = read(HOP + chain("row hop hop", "row" + " AHEAD" * 8, 60 - HOP_PARTS, begin=10))
        self.assertEqual((len(book[1]), length_of(book)), (60, 24 * 8 ** 49))
        self.same_turns(HOP + chain("row hop hop", "row" + " AHEAD" * 8, 60 - HOP_PARTS, begin=10), 12)

    def test_each_of_sixty_names_the_one_ahead_in_an_again(self):
        self.same_turns(HOP + chain("row hop hop", "again 9 AHEAD", 60 - HOP_PARTS, begin=10), 12)

    def test_rows_and_agains_by_turns(self):
        rows = ["part ba row hop hop hop"]
        for number in range(11, 60):
            form = "again 7 " if number % 2 else "row" + f" {named(number - 1)}" * 7 + " "
            rows.append(f"part {named(number)} {form}{named(number - 1)}")
        self.same_turns(HOP + "\n".join(rows), 12)

    def test_all_sixty_from_the_first_part_on(self):
        for form, size in (("row" + " AHEAD" * 8, 8), ("again 10 AHEAD", 10)):
            book = read(LIMBS + chain("raise leg 0 1", form, 60))
            last = size ** 59
            self.assertEqual(length_of(book), last)
            self.assertEqual(soon(asked, book, 0), ([0, 5], []))
            for beat in (1, last // 2, last - 1, last):
                self.assertEqual(soon(asked, book, beat), ([0, 0], []))
            book = read(LIMBS + chain("ring ding 1", form, 60))
            for beat in (0, 1, last // 2, last - 1):
                self.assertEqual(soon(asked, book, beat), ([0, 5], ["ding"]))
            self.assertEqual(soon(asked, book, last), ([0, 5], []))

    # Eight limbs, each in a long chain of its own, all of them in sides: the most that can be played at one beat.
    def test_long_chains_side_by_side(self):
        limbs = "abcdefgh"
        rows = ["limbs " + " ".join(f"{limb} 0" for limb in limbs)]
        for place, limb in enumerate(limbs):
            rows += [f"part up{limb} raise {limb} {place + 1} {place + 1}",
                     f"part down{limb} raise {limb} 0 {place + 1}", f"part bell{limb} ring {limb} 1",
                     f"part {limb} row bell{limb} up{limb} down{limb}",
                     f"part {limb}x again {GREAT} {limb}", f"part {limb}y row" + f" {limb}x" * 8]
        rows += ["part m side hy gy fy ey", "part n side dy cy by ay", "part o side m n", f"part p again {GREAT} o",
                 "part q again 9 p"]
        book = read("\n".join(rows))
        period = 17 * 8 * GREAT
        self.assertEqual(length_of(book), period * GREAT * 9)
        for turn in (0, 1, 10 ** 17 + 3, 9 * GREAT - 1):
            for beat in (0, 1, 2, 5, 17, 10 ** 17, 8 * GREAT * 3 - 1, 8 * GREAT * 3, 8 * GREAT * 5, period - 1):
                heights = []
                words = []
                for place, limb in enumerate(limbs):
                    gone = beat % (2 * place + 3)
                    rung = gone == 0
                    if beat >= 8 * GREAT * (2 * place + 3):
                        gone = 0
                        rung = False
                    heights.append(max(gone - 1, 0) if gone < place + 2 else 2 * place + 3 - gone)
                    words += [limb] if rung else []
                self.assertEqual(soon(asked, book, turn * period + beat), (heights, words[::-1]), (turn, beat))

    def test_made_books_far_away(self):
        for book in drawn_books()[:60]:
            far = far_book(book)
            turns = Turns(book, far)
            size = turns.size
            for turn in (1, 10 ** 17 + 7, GREAT, GREAT + 1, 5 * GREAT // 2, 6 * GREAT + 2):
                for rest in range(0, size, 1 + size // 9):
                    beat = turn * size + rest
                    self.assertEqual(asked(far, beat), turns.at(beat), (book, beat))


class Owning(unittest.TestCase):
    def test_what_is_handed_in_stays(self):
        for book in drawn_books()[:40] + [read(HOP + f"part a again {GREAT} hop")]:
            before = copy.deepcopy(book)
            for beat in (0, 1, length_of(book) // 2, length_of(book)):
                asked(book, beat)
                self.assertEqual(book, before)
            for ask in (stand, rings):
                with self.assertRaises(NoBeat):
                    ask(book, -1)
            self.assertEqual(book, before)

    def test_lists_that_were_told_are_the_askers_own(self):
        for book in drawn_books()[:40]:
            for beat in (0, length_of(book) // 2, length_of(book)):
                found = asked(book, beat)
                before = copy.deepcopy(found)
                found[0].clear()
                found[1].append("gong")
                self.assertEqual(asked(book, beat), before)

    # A book that is changed is another book: nothing told of the older one lives on.
    def test_a_book_that_is_changed_is_told_as_it_is_then(self):
        book = read(LIMBS + "part up raise arm 8 4\npart play again 2 up")
        self.assertEqual(asked(book, 2), ([4, 5], []))
        book[0][0] = ("arm", 4)
        book[1][0] = ("up", ("raise", "arm", 0, 2))
        self.assertEqual([stand(book, beat) for beat in range(5)], [[4, 5], [2, 5], [0, 5], [0, 5], [0, 5]])
        book[1].append(("bell", ("ring", "ding", 1)))
        self.assertEqual(told(book), [([4, 5], ["ding"]), ([4, 5], [])])
        self.assertEqual(asked(book, 0), ([4, 5], ["ding"]))


if __name__ == "__main__":
    unittest.main()
