import copy
import unittest

from camplay.books import read
from camplay.jumps import first_jump
from camplay.looks import lengths
from camplay.standing import stand
from plays import (GREAT, HOP, LIMBS, SMALL, Turns, chain, drawn_books, far_book, many_heights, often, play_by,
                   side_by_side, soon, utmost_book)


# The first jump among the beats of a play.
def jump_by(book, play, most):
    for beat, pair in enumerate(zip(play, play[1:])):
        for limb, before, after in zip(book[0], pair[0][0], pair[1][0]):
            if abs(after - before) > most:
                return (beat, limb[0], after - before)
    return None


class ByHand(unittest.TestCase):
    def jumps(self, text, mosts):
        return [first_jump(read(text), most) for most in mosts]

    # 0 1 3 5
    def test_a_raise(self):
        self.assertEqual(self.jumps("limbs arm 0\npart up raise arm 5 3", range(4)),
                         [(0, "arm", 1), (1, "arm", 2), None, None])

    # 10 6 3 0
    def test_a_change_below_0_has_its_sign(self):
        self.assertEqual(self.jumps("limbs arm 10\npart down raise arm 0 3", range(6)),
                         [(0, "arm", -4)] * 4 + [None, None])
        self.assertEqual(self.jumps("limbs arm 9\npart down raise arm 0 3", range(4)), [(0, "arm", -3)] * 3 + [None])

    # A limb that falls by less than one at each beat falls at once, one that rises so rises at last.
    def test_less_than_one_at_each_beat(self):
        self.assertEqual(self.jumps("limbs arm 1\npart down raise arm 0 9", range(2)), [(0, "arm", -1), None])
        self.assertEqual(self.jumps("limbs arm 0\npart up raise arm 1 9", range(2)), [(8, "arm", 1), None])
        self.assertEqual(self.jumps("limbs arm 0\npart up raise arm 2 9", range(2)), [(4, "arm", 1), None])
        self.assertEqual(self.jumps("limbs arm 9\npart stay raise arm 9 9", range(2)), [None, None])

    def test_in_one_beat(self):
        self.assertEqual(self.jumps("limbs arm 7\npart up raise arm 9 1", (0, 1, 2)), [(0, "arm", 2)] * 2 + [None])
        self.assertEqual(self.jumps("limbs arm 7\npart up raise arm 2 1", (0, 4, 5)), [(0, "arm", -5)] * 2 + [None])
        self.assertEqual(self.jumps(f"limbs arm 0\npart up raise arm {GREAT} 1", (GREAT - 1, GREAT, GREAT + 1)),
                         [(0, "arm", GREAT), None, None])

    def test_what_moves_nothing(self):
        for rows in ("part wait hold 9", "part bell ring ding 9", "part a hold 1\npart b row a a\npart c again 7 b"):
            self.assertEqual(self.jumps(LIMBS + rows, (0, 1, 10 ** 80)), [None] * 3)

    def test_several_limbs_at_one_beat(self):
        text = "limbs z 0 a 9 m 0\npart z raise z 6 3\npart a raise a 0 3\npart m raise m 30 3\npart wait hold 2\n"
        for names in ("z a m", "m a z", "a z m", "m z a"):
            found = self.jumps(text + f"part s side {names}\npart p row wait s", (0, 1, 2, 3, 9, 10))
            self.assertEqual(found, [(2, "z", 2)] * 2 + [(2, "a", -3)] + [(2, "m", 10)] * 2 + [None])

    # The earlier beat goes ahead of the limbs' order.
    def test_a_later_limb_that_changes_earlier(self):
        text = "limbs arm 0 leg 5\npart up raise arm 9 3\npart wait hold 1\npart step raise leg 1 2\n"
        self.assertEqual(self.jumps(text + "part p row step wait up", (0, 1, 2)),
                         [(0, "leg", -2)] * 2 + [(3, "arm", 3)])
        self.assertEqual(self.jumps(text + "part q row wait up\npart p side q step", (1, 2)),
                         [(0, "leg", -2), (1, "arm", 3)])

    # 0 1 2 4 0: the first raise is over just behind its one greater change, and the next one begins with a greater one.
    def test_where_a_part_ends_and_the_next_one_begins(self):
        text = "limbs arm 0\npart up raise arm 4 3\npart down raise arm 0 1\npart p row up down\n"
        self.assertEqual(self.jumps(text.strip(), range(5)),
                         [(0, "arm", 1), (2, "arm", 2), (3, "arm", -4), (3, "arm", -4), None])
        self.assertEqual(self.jumps(text + "part q again 9 p", range(5)), self.jumps(text.strip(), range(5)))

    # The first turn begins at 9 and so does not move at first; a later one begins at 0.
    def test_in_a_later_turn_of_an_again(self):
        text = "limbs arm 9\npart up raise arm 9 3\npart down raise arm 0 9\npart a row up down\n"
        self.assertEqual(self.jumps(text + f"part p again {GREAT} a", range(4)),
                         [(3, "arm", -1), (12, "arm", 3), (12, "arm", 3), None])
        self.assertEqual(self.jumps(text + "part p again 1 a", range(2)), [(3, "arm", -1), None])
        self.assertEqual(self.jumps(text + "part p again 2 a\npart q again 2 p\npart r row down q", (1, 2, 3)),
                         [(9, "arm", 3), (9, "arm", 3), None])

    # The first turn begins at 20, and falls there by more than ever behind.
    def test_in_the_first_turn_of_an_again(self):
        text = "limbs arm 20\npart up raise arm 9 3\npart down raise arm 0 9\npart a row up down\npart p again 5 a"
        self.assertEqual(self.jumps(text, range(5)), [(0, "arm", -4)] * 4 + [None])

    def test_in_a_side_that_goes_on(self):
        text = LIMBS + ("part up raise arm 9 9\npart a raise leg 4 1\npart b raise leg 8 2\npart wait hold 3\n"
                        "part legs row a wait b\npart p side up legs\npart q row p up p")
        self.assertEqual(self.jumps(text, (0, 1, 2, 3, 4)),
                         [(0, "arm", 1), (4, "leg", 2), (18, "leg", -4), (18, "leg", -4), None])

    def test_kinds_and_names(self):
        found = first_jump(book=read(LIMBS + "part up raise leg 9 2"), most=1)
        self.assertIs(type(found), tuple)
        self.assertEqual([type(one) for one in found], [int, str, int])
        self.assertEqual(found, (0, "leg", 2))


class EachMost(unittest.TestCase):
    def same(self, book):
        play = play_by(book)
        for most in range(22):
            self.assertEqual(first_jump(book, most), jump_by(book, play, most), (book, most))

    def test_small_books_of_each_form(self):
        for text in SMALL:
            self.same(read(text))

    def test_made_books(self):
        for book in drawn_books():
            self.same(book)

    def test_every_ramp(self):
        for start in range(9):
            for goal in range(9):
                for beats in range(1, 12):
                    self.same(read(f"limbs arm {start}\npart a raise arm {goal} {beats}"))


class LongPlays(unittest.TestCase):
    # What does not come in two turns and the begin of the third comes in none behind them.
    def test_made_books_turn_by_turn(self):
        for base in drawn_books()[:40] + [read(HOP.strip())]:
            play = play_by(often(base, (3,)))
            for book in (far_book(base), utmost_book(base)):
                for most in (0, 1, 2, 3, 5, 8, 20):
                    self.assertEqual(soon(first_jump, book, most), jump_by(book, play, most), (book, most))

    # Slow turns first, and the quick part behind all of them.
    def test_behind_a_long_play(self):
        for base in (read(HOP.strip()), drawn_books()[7]):
            book = utmost_book(base)
            long = book[1][-2][0]
            size = Turns(base, book).size * 10 ** 54
            limb = base[0][0][0]
            parts = book[1][:-1] + [("top", ("raise", limb, GREAT, 7)), ("last", ("row", (long, "top", long)))]
            found = soon(first_jump, (book[0], parts), 20)
            height = stand((book[0], parts), size)[0]
            self.assertEqual(found, (size, limb, (GREAT - height) // 7))
            self.assertEqual(lengths((book[0], parts))[-1], 2 * size + 7)

    def test_each_of_sixty_names_the_one_ahead(self):
        for form in ("row" + " AHEAD" * 8, "again 10 AHEAD"):
            book = read(LIMBS + chain("raise leg 7 3", form, 60))
            self.assertEqual([soon(first_jump, book, most) for most in (0, 1)], [(1, "leg", 1), None])
            book = read(LIMBS + chain("hold 1", form, 60))
            self.assertIsNone(soon(first_jump, book, 0))

    def test_a_slow_climb(self):
        book = read(f"limbs arm 0\npart up raise arm 1 {GREAT}\npart down raise arm 0 {GREAT}\npart a row up down\n"
                    f"part b raise arm 3 2\npart c again {GREAT} a\npart d again 400000 c\npart e row d b")
        self.assertEqual(soon(first_jump, book, 0), (GREAT - 1, "arm", 1))
        self.assertEqual(soon(first_jump, book, 1), (2 * GREAT * GREAT * 400000 + 1, "arm", 2))
        self.assertIsNone(soon(first_jump, book, 2))

    def test_parts_that_begin_at_many_heights(self):
        book = read(many_heights())
        last = lengths(book)[-1]
        for most in (0, 1, 2, 3, 4, 5, 6, 7, 8, 9, 10, GREAT):
            found = soon(first_jump, book, most)
            if found is not None:
                self.assertTrue(0 <= found[0] < last)
                self.assertEqual(stand(book, found[0] + 1)[0] - stand(book, found[0])[0], found[2])
                self.assertGreater(abs(found[2]), most)
        self.assertIsNone(found)

    def test_long_chains_side_by_side(self):
        book = read(side_by_side())
        self.assertEqual([soon(first_jump, book, most) for most in (0, 1)], [(17, "k", 1), None])


class Owning(unittest.TestCase):
    def test_what_is_handed_in_stays(self):
        for book in drawn_books()[:20] + [utmost_book(read(HOP.strip()))]:
            before = copy.deepcopy(book)
            for most in (0, 3, 100):
                first_jump(book, most)
                self.assertEqual(book, before)

    # A book that is changed is another book: nothing told of the older one lives on.
    def test_a_book_that_is_changed_is_told_as_it_is_then(self):
        book = read(LIMBS + "part up raise arm 8 4\npart play again 2 up")
        self.assertEqual(first_jump(book, 1), (0, "arm", 2))
        book[0][0] = ("arm", 7)
        self.assertIsNone(first_jump(book, 1))
        book[1][0] = ("up", ("raise", "arm", 0, 2))
        self.assertEqual(first_jump(book, 1), (0, "arm", -4))


if __name__ == "__main__":
    unittest.main()
