import copy
import unittest

from camplay.books import read
from camplay.errors import Idle, PlayError, TooLong, TwoHands
from camplay.looks import ends, lengths, moved
from plays import chain, drawn_books, end_by, length_by, moved_by

LIMBS = "limbs arm 3 leg 5 head 7\n"
SIX = LIMBS + """part wait hold 4
part bell ring ding 2
part up raise arm 10 3
part down raise arm 1 6
part step raise leg 8 5
part nod raise head 9 1
part go row up wait bell down
part both side nod go step
part play again 9 both"""
GREAT = 10 ** 18
# hills is 10 ** 60 beats long just
HILLS = LIMBS + f"""part wait hold {10 ** 6}
part far again {GREAT} wait
part farther again {GREAT} far
part hills again {GREAT} farther
"""


def long_chain(form):
    return LIMBS + chain("raise leg 8 1", form, 60)


class EachForm(unittest.TestCase):
    def test_limbs_moved(self):
        self.assertEqual(moved(read(SIX)), [[], [], [0], [0], [1], [2], [0], [0, 1, 2], [0, 1, 2]])

    def test_lengths(self):
        self.assertEqual(lengths(read(SIX)), [4, 2, 3, 6, 5, 1, 15, 15, 135])

    def test_ends(self):
        self.assertEqual(ends(read(SIX)), [[], [], [(0, 10)], [(0, 1)], [(1, 8)], [(2, 9)], [(0, 1)],
                                           [(0, 1), (1, 8), (2, 9)], [(0, 1), (1, 8), (2, 9)]])

    def test_kinds(self):
        book = read(SIX)
        for lists in (moved(book), ends(book)):
            self.assertIs(type(lists), list)
            self.assertEqual([type(one) for one in lists], [list] * 9)
        self.assertIs(type(lengths(book)), list)
        self.assertEqual([type(pair) for left in ends(book) for pair in left], [tuple] * 11)

    def test_a_row_leaves_what_the_last_one_that_moves_the_limb_leaves(self):
        book = read(SIX + "\npart a row down step up wait\npart b row up step a nod\npart c row a b down nod bell")
        self.assertEqual(ends(book)[-3:], [[(0, 10), (1, 8)], [(0, 10), (1, 8), (2, 9)], [(0, 1), (1, 8), (2, 9)]])
        self.assertEqual(moved(book)[-3:], [[0, 1], [0, 1, 2], [0, 1, 2]])
        self.assertEqual(lengths(book)[-3:], [18, 27, 54])

    def test_limbs_rise_whatever_the_order_of_names(self):
        book = read(SIX + "\npart a row nod step up\npart b side nod step up")
        for limbs in moved(book)[-2:]:
            self.assertEqual(limbs, [0, 1, 2])
        for left in ends(book)[-2:]:
            self.assertEqual(left, [(0, 10), (1, 8), (2, 9)])

    def test_parts_named_more_than_once(self):
        book = read(SIX + "\npart a row up up up up up up up up\npart b row a wait a\npart c again 5 b")
        self.assertEqual(lengths(book)[-3:], [24, 52, 260])
        self.assertEqual(moved(book)[-3:], [[0]] * 3)
        self.assertEqual(ends(book)[-3:], [[(0, 10)]] * 3)

    def test_a_side_is_as_long_as_the_longest(self):
        for names in ("go step nod", "nod go step", "step nod go"):
            self.assertEqual(lengths(read(SIX + "\npart a side " + names))[-1], 15)

    def test_a_part_called_as_a_limb_is(self):
        book = read("limbs arm 0 leg 1\npart arm raise leg 4 2\npart leg hold 3\npart x row leg arm leg")
        self.assertEqual(moved(book), [[1], [], [1]])
        self.assertEqual(lengths(book), [2, 3, 8])
        self.assertEqual(ends(book), [[(1, 4)], [], [(1, 4)]])

    def test_parts_that_move_nothing(self):
        book = read(LIMBS + "part a hold 3\npart b ring ding 1\npart c row a b a\npart d again 7 c")
        self.assertEqual(moved(book), [[], [], [], []])
        self.assertEqual(ends(book), [[], [], [], []])
        self.assertEqual(lengths(book), [3, 1, 7, 49])

    def test_made_books_against_the_words(self):
        for book in drawn_books():
            names = [name for name, form in book[1]]
            self.assertEqual(moved(book), [sorted(moved_by(book, name)) for name in names])
            self.assertEqual(lengths(book), [length_by(book, name) for name in names])
            self.assertEqual(ends(book), [end_by(book, name) for name in names])


class LongChains(unittest.TestCase):
    def test_each_names_the_one_ahead_eight_times(self):
        book = read(long_chain("row" + " AHEAD" * 8))
        self.assertEqual(lengths(book), [8 ** k for k in range(60)])
        self.assertEqual(moved(book), [[1]] * 60)
        self.assertEqual(ends(book), [[(1, 8)]] * 60)

    def test_each_names_the_one_ahead_in_an_again(self):
        book = read(long_chain("again 10 AHEAD"))
        self.assertEqual(lengths(book), [10 ** k for k in range(60)])
        self.assertEqual(moved(book), [[1]] * 60)
        self.assertEqual(ends(book), [[(1, 8)]] * 60)

    def test_sides_that_name_the_one_ahead_four_times(self):
        book = read(long_chain("side" + " AHEAD" * 4))
        self.assertEqual(moved(book), [[1]] * 60)
        with self.assertRaises(TwoHands) as taken:
            lengths(book)
        self.assertEqual((taken.exception.row, taken.exception.limb), (1, "leg"))


class Unsound(unittest.TestCase):
    def refused(self, text, kind, row):
        with self.assertRaises(PlayError, msg=text) as taken:
            lengths(read(text))
        self.assertIs(type(taken.exception), kind, text)
        self.assertEqual(taken.exception.row, row, text)
        return taken.exception

    def test_a_side_with_a_part_that_moves_no_limb(self):
        for names in ("up wait", "bell step", "wait bell", "up step nod wait", "wait wait"):
            self.refused(SIX + "\npart a side " + names, Idle, 9)
        self.refused(LIMBS + "part a hold 1\npart b side a a", Idle, 1)
        self.refused(SIX + "\npart a row wait bell\npart b again 3 a\npart c side up b\npart d hold 1", Idle, 11)

    def test_a_side_that_moves_a_limb_twice(self):
        for names, limb in (("up up", "arm"), ("up down", "arm"), ("step go nod up", "arm"), ("nod step nod", "head"),
                            ("step both", "leg"), ("both nod", "head"), ("both both", "arm"),
                            ("nod step step nod", "leg"), ("step nod up play", "arm"), ("play step", "leg")):
            self.assertEqual(self.refused(SIX + "\npart a side " + names, TwoHands, 9).limb, limb)

    # The limbs' order is that of the book's first row, not that of the alphabet or of the names in the side.
    def test_the_first_limb_in_the_limbs_order(self):
        text = "limbs z 0 a 0 m 0\npart z raise z 1 1\npart a raise a 1 1\npart m raise m 1 1\n"
        for names, limb in (("a z a z", "z"), ("m a m a", "a"), ("m z z m", "z"), ("a a m m", "a"), ("m m z a", "m")):
            self.assertEqual(self.refused(text + "part s side " + names, TwoHands, 3).limb, limb)

    def test_idle_goes_ahead_of_two_hands_in_a_part(self):
        for names in ("up up wait", "wait up up", "up wait up", "wait wait", "both both both wait"):
            self.refused(SIX + "\npart a side " + names, Idle, 9)

    def test_ten_to_the_sixtieth_just_and_one_above(self):
        self.assertEqual(lengths(read(HILLS + "part one hold 1")), [10 ** 6, 10 ** 24, 10 ** 42, 10 ** 60, 1])
        self.assertEqual(lengths(read(HILLS + "part a row hills\npart b again 1 a"))[-2:], [10 ** 60] * 2)
        self.refused(HILLS + "part one hold 1\npart a row hills one", TooLong, 5)
        self.refused(HILLS + "part one hold 1\npart a row one hills", TooLong, 5)
        self.refused(HILLS + "part a again 2 hills", TooLong, 4)
        self.refused(HILLS + "part a row hills hills\npart one hold 1", TooLong, 4)
        self.refused(HILLS + f"part a again {GREAT} hills\npart b again {GREAT} a", TooLong, 4)

    def test_a_row_that_reaches_it_just(self):
        share = LIMBS + (f"part x hold {10 ** 6}\npart y again {GREAT} x\npart z again {GREAT} y\n"
                         f"part half again {GREAT // 2} z\n")
        self.assertEqual(lengths(read(share + "part a row half half"))[-1], 10 ** 60)
        self.refused(share + "part one hold 1\npart a row half one half", TooLong, 5)

    def test_a_side_that_reaches_it_just(self):
        hills = HILLS.replace(f"hold {10 ** 6}", f"raise arm 4 {10 ** 6}")
        self.assertEqual(lengths(read(hills + "part step raise leg 1 1\npart a side step hills"))[-1], 10 ** 60)

    def test_the_first_part_is_told(self):
        idle = "part i side wait wait\n"
        long = "part l again 2 hills\n"
        hands = "part up raise arm 1 1\npart h side up up\n"
        self.refused(HILLS + idle + long + hands + "part z hold 1", Idle, 4)
        self.refused(HILLS + long + idle + hands + "part z hold 1", TooLong, 4)
        self.refused(HILLS + hands + idle + long + "part z hold 1", TwoHands, 5)

    def test_parts_that_the_play_does_not_name_are_looked_at_too(self):
        self.refused(SIX + "\npart a side wait up\npart b hold 1", Idle, 9)
        self.refused(HILLS + "part a again 2 hills\npart b hold 1", TooLong, 4)

    def test_limbs_moved_are_told_of_books_that_are_not_sound(self):
        text = SIX + ("\npart a side up down\npart b side wait bell\npart c side a b step\npart d row c nod\n"
                      "part e again 2 b")
        self.assertEqual(moved(read(text))[-5:], [[0], [], [0, 1], [0, 1, 2], []])
        self.assertEqual(moved(read(HILLS + "part up raise head 1 1\npart a row hills up hills"))[-2:], [[2], [2]])


class Owning(unittest.TestCase):
    def test_what_is_handed_in_stays(self):
        for text in (SIX, HILLS + "part one hold 1", long_chain("again 10 AHEAD")):
            book = read(text)
            before = copy.deepcopy(book)
            for told in (moved, lengths, ends):
                told(book)
                self.assertEqual(book, before)
        book = read(SIX + "\npart a side up up")
        before = copy.deepcopy(book)
        with self.assertRaises(TwoHands):
            lengths(book)
        self.assertEqual(book, before)

    def test_lists_that_were_told_are_the_askers_own(self):
        book = read(SIX)
        for told in (moved, lengths, ends):
            before = copy.deepcopy(told(book))
            first = told(book)
            if told != lengths:
                for one in first:
                    one.append((9, 9))
            first.append(17)
            self.assertEqual(told(book), before)

    # A part that only names another one tells a list of its own.
    def test_no_list_stands_twice_in_what_is_told(self):
        book = read(SIX + "\npart a row play\npart b again 1 a\npart c row up\npart d row wait")
        for told in (moved, ends):
            lists = told(book)
            self.assertEqual(len({id(one) for one in lists}), len(lists))


if __name__ == "__main__":
    unittest.main()
