import copy
import math
import unittest

from camplay.books import read, shown
from camplay.errors import Broad
from camplay.ever import rings_ever
from camplay.looks import lengths
from camplay.meeting import meeting
from plays import (CHIMES, GREAT, HOP, LIMBS, SMALL, Drawn, chain, drawn_books, far_book, named, often, play_by,
                   side_by_side, soon)


# The parts of a wait of so many beats: a hold, and agains of holds of GREAT beats, of GREAT of these, and so on.
def wait_forms(name, beats):
    forms = []
    for unit in ("", "u", "v", "w"):
        figure = beats % GREAT
        beats = beats // GREAT
        if figure:
            forms.append((name + "k" + unit, ("again", figure, unit) if unit else ("hold", figure)))
    return forms


# A book that rings ding at these beats alone, by bells of one beat each, in a play of so many beats.
def ringing(size, beats):
    parts = [("bell", ("ring", "ding", 1)), ("u", ("hold", GREAT)), ("v", ("again", GREAT, "u")),
             ("w", ("again", GREAT, "v"))]
    names = []
    now = 0
    for number, beat in enumerate(sorted(beats) + [size]):
        forms = wait_forms(named(number), beat - now)
        parts += forms
        names += [name for name, form in forms]
        names += ["bell"] if beat < size else []
        now = beat + 1
    rows = [("r" + named(place), ("row", tuple(names[place:place + 8]))) for place in range(0, len(names), 8)]
    return ([("arm", 0)], parts + rows + [("play", ("row", tuple(name for name, form in rows)))])


def bells(*told):
    books = [ringing(size, beats) for size, beats in told]
    return (books, ["ding"] * len(books))


# The same from a list of tuples (size, beats), beat by beat.
def met_by(told, beat):
    for now in range(beat, beat + math.lcm(*(size for size, beats in told))):
        if all(now % size in beats for size, beats in told):
            return now
    return None


# And where the plays are long: each choice of one beat of each book, put together book by book.
def met_far_by(told, beat):
    whole = math.lcm(*(size for size, beats in told))
    found = [(0, 1)]
    for size, beats in told:
        more = []
        for now, turn in found:
            common = math.gcd(turn, size)
            for one in beats:
                if (one - now) % common == 0:
                    steps = (one - now) // common * pow(turn // common, -1, size // common) % (size // common)
                    more.append((now + turn * steps, turn * size // common))
        found = more
    return min([beat + (now - beat) % whole for now, turn in found], default=None)


def rung_by(book, word):
    return [beat for beat, (heights, words) in enumerate(play_by(book)) for one in words if one == word]


class Near(unittest.TestCase):
    def test_one_book(self):
        books, words = bells((7, [2, 5]))
        self.assertEqual([meeting(books, words, beat) for beat in range(17)],
                         [2, 2, 2, 5, 5, 5, 9, 9, 9, 9, 12, 12, 12, 16, 16, 16, 16])

    def test_two_books(self):
        books, words = bells((3, [1]), (5, [2]))
        self.assertEqual([meeting(books, words, beat) for beat in (0, 6, 7, 8, 22, 23)], [7, 7, 7, 22, 22, 37])
        books, words = bells((4, [1]), (6, [3]))
        self.assertEqual([meeting(books, words, beat) for beat in (0, 9, 10, 21, 22)], [9, 9, 21, 21, 33])

    def test_two_books_that_never_meet(self):
        for told in (((4, [1]), (6, [2])), ((4, [0, 2]), (6, [1, 3, 5])), ((5, [0]), (5, [1])),
                     ((3, [0]), (9, [1, 2]))):
            books, words = bells(*told)
            for beat in (0, 1, 10 ** 60):
                self.assertIsNone(meeting(books, words, beat))

    def test_three_books(self):
        books, words = bells((6, [0]), (10, [0]), (15, [0]))
        self.assertEqual([meeting(books, words, beat) for beat in (0, 1, 30, 31)], [0, 30, 30, 60])
        books, words = bells((3, [2]), (5, [3]), (7, [2]))
        self.assertEqual([meeting(books, words, beat) for beat in (0, 23, 24)], [23, 23, 128])

    # Each two of them meet, but never all three.
    def test_three_books_of_which_each_two_meet(self):
        told = ((4, [0, 1]), (4, [1, 2]), (4, [2, 0]))
        for left in range(3):
            books, words = bells(*(told[:left] + told[left + 1:]))
            self.assertIsNotNone(meeting(books, words))
        books, words = bells(*told)
        self.assertIsNone(meeting(books, words))

    def test_plays_of_one_beat(self):
        books, words = bells((1, [0]), (1, [0]))
        self.assertEqual([meeting(books, words, beat) for beat in (0, 1, 10 ** 60)], [0, 1, 10 ** 60])
        books, words = bells((1, [0]), (9, [4]))
        self.assertEqual([meeting(books, words, beat) for beat in (0, 4, 5)], [4, 4, 13])

    # The last beat of a play that is told once rings nothing; played for ever, it is the first one again.
    def test_the_new_begin(self):
        books, words = bells((9, [0]))
        self.assertEqual([meeting(books, words, beat) for beat in (0, 1, 9, 10)], [0, 9, 9, 18])

    def test_the_beat_left_out(self):
        books, words = bells((7, [2, 5]), (3, [2]))
        self.assertEqual(meeting(books, words), 2)
        self.assertEqual(meeting(books, words), meeting(books, words, 0))
        self.assertEqual(meeting(books, words, beat=3), 5)

    def test_beat_by_beat(self):
        drawn = Drawn(3)
        for salt in range(400):
            told = []
            for number in range(1 + drawn.below(3)):
                size = 1 + drawn.below(drawn.one((6, 12, 24)))
                many = 1 + drawn.below(min(size, 12))
                told.append((size, sorted({drawn.below(size) for time in range(many)})))
            books, words = bells(*told)
            for beat in (0, drawn.below(50), drawn.below(5000)):
                self.assertEqual(meeting(books, words, beat), met_by(told, beat), (told, beat))

    # Each book with its own word.
    def test_each_book_with_its_word(self):
        text = LIMBS + "part a ring ding 2\npart b ring dong 3\npart c hold 4\npart d row "
        one, other = read(text + "a b c"), read(text + "c b a")
        self.assertEqual(meeting([one], ["ding"]), 0)
        self.assertEqual(meeting([one], ["dong"]), 2)
        self.assertIsNone(meeting([one, one], ["ding", "dong"]))
        self.assertEqual(meeting([one, one], ["dong", "dong"], 3), 11)
        self.assertIsNone(meeting([one, other], ["ding", "dong"]))
        longer = read(text + "c a a")
        self.assertEqual([lengths(book)[-1] for book in (one, other, longer)], [9, 9, 8])
        self.assertEqual(meeting([one, longer], ["ding", "ding"]), 36)
        self.assertEqual(meeting([longer, one], ["ding", "dong"]), 20)
        self.assertIsNone(meeting([longer, one], ["dong", "ding"]))
        self.assertEqual(meeting([longer, other, one], ["ding", "dong", "ding"]), None)
        self.assertEqual(meeting([longer, other, one], ["ding", "ding", "ding"]), None)
        self.assertEqual(meeting([longer, one, one], ["ding", "dong", "dong"]), 20)

    def test_words_that_nobody_rings(self):
        book = read(CHIMES)
        hold = read(LIMBS + "part a hold 3")
        for word in ("cuckoo", "d", "Ding", "ding ", "", "arm", "bell"):
            self.assertIsNone(meeting([book], [word]))
            self.assertIsNone(meeting([hold, book], ["ding", "ding"]))
            self.assertIsNone(meeting([book, book], ["ding", word], 10 ** 60))
            self.assertIsNone(meeting([book, book, book], [word, "ding", "dong"]))

    # A part that rings the word, but that the play does not name.
    def test_rings_that_are_not_in_the_play(self):
        book = read(LIMBS + "part a ring ding 2\npart b hold 3\npart c row b b")
        self.assertIsNone(meeting([book], ["ding"]))

    # Made books: the beats of their rings are those of their plays.
    def test_made_books(self):
        drawn = Drawn(8)
        books = [read(text) for text in SMALL] + drawn_books()
        few = [book for book in books if len(rung_by(book, "ding")) <= 12]
        self.assertGreater(len(few), 60)
        for book in few:
            told = [(lengths(book)[-1], rung_by(book, "ding"))]
            for beat in {0, drawn.below(told[0][0]), drawn.below(10 ** 6)}:
                self.assertEqual(meeting([book], ["ding"], beat), met_by(told, beat))
        for time in range(150):
            among = [drawn.one(few) for number in range(2 + drawn.below(2))]
            told = [(lengths(book)[-1], rung_by(book, "ding")) for book in among]
            beat = drawn.one((0, drawn.below(300), drawn.below(10 ** 9)))
            self.assertEqual(meeting(among, ["ding"] * len(among), beat), met_far_by(told, beat))

    def test_from_below_0_on(self):
        books, words = bells((7, [2, 6]))
        self.assertEqual([meeting(books, words, beat) for beat in (-1, -2, -10 ** 60)], [2, 2, 2])


class Far(unittest.TestCase):
    # Two ways to tell them by themselves agree.
    def test_the_tellings_agree(self):
        drawn = Drawn(4)
        for time in range(300):
            sizes = [1 + drawn.below(20) for number in range(1 + drawn.below(3))]
            told = [(size, sorted({drawn.below(size) for one in range(4)})) for size in sizes]
            beat = drawn.below(10000)
            self.assertEqual(met_far_by(told, beat), met_by(told, beat))

    # The books ring at one far beat, and at other beats that no other book knows of.
    def test_a_far_beat(self):
        for sizes in ((10 ** 18 + 9, 10 ** 18 + 7), (10 ** 54 - 1, 10 ** 54 + 1, 10 ** 53 + 3),
                      (2 ** 150, 3 ** 100, 5 ** 70), (12 * 10 ** 40, 18 * 10 ** 40, 30 * 10 ** 40)):
            whole = math.lcm(*sizes)
            for beat in (0, whole // 3, whole - 1, whole * 10 ** 20 + whole // 7):
                books, words = bells(*((size, [beat % size]) for size in sizes))
                self.assertEqual(soon(meeting, books, words, beat), beat)
                self.assertEqual(soon(meeting, books, words), beat % whole)
                self.assertEqual(soon(meeting, books, words, beat + 1), beat + whole)
                for book in books:
                    self.assertEqual(rings_ever(book, beat), ["ding"])

    def drawn_size(self, drawn, factors):
        size = 1
        while size < 10 ** 45:
            size *= drawn.one(factors)
        return size

    # Up to twelve rings in each of three long plays, with common factors and without.
    def test_many_rings(self):
        drawn = Drawn(6)
        same = [[factors] * 3 for factors in ((2, 3, 5, 7), (6, 10, 15), (10 ** 9 + 7, 10 ** 9 + 9, 12))]
        for factors in same + [[(2,), (3,), (5,)], [(7, 8), (9, 5), (10 ** 18 + 9,)], [(2, 11), (13,), (2, 17)]]:
            for many in (2, 3):
                told = []
                for number in range(many):
                    size = self.drawn_size(drawn, factors[number])
                    beats = {drawn.below(2 ** 31) * size >> 31 for time in range(6)}
                    told.append((size, sorted(beats | {drawn.below(40) for time in range(6)})))
                books, words = bells(*told)
                for book in books:
                    self.assertEqual(read(shown(book)), book)
                for beat in (0, 17, 10 ** 44, 10 ** 100):
                    found = soon(meeting, books, words, beat)
                    self.assertEqual(found, met_far_by(told, beat))
                    if found is not None:
                        self.assertGreaterEqual(found, beat)
                        self.assertTrue(all(rings_ever(book, found) == ["ding"] for book in books))

    def test_long_plays_of_sixty_parts(self):
        rows = chain("hold 7", "row" + " AHEAD" * 8, 40) + "\npart bell ring ding 1\npart p row bell bell bell bell\n"
        texts = [LIMBS + rows + f"part q row {names}\npart r again 3 q" for names in
                 ("dj p", "p dj", "di p di")]
        books = [read(text) for text in texts]
        for book in books:
            self.assertEqual(read(shown(book)), book)
        told = []
        for book, ahead in zip(books, (7 * 8 ** 39, 0, 7 * 8 ** 38)):
            size = lengths(book)[-1] // 3
            told.append((size, [ahead + number for number in range(4)]))
        for beat in (0, 10 ** 30, 10 ** 60, 10 ** 150):
            for many in (1, 2, 3):
                found = soon(meeting, books[:many], ["ding"] * many, beat)
                self.assertEqual(found, met_far_by(told[:many], beat))

    # Few rings beside parts that are named very often, and beside agains of very many turns.
    def test_rings_that_lie_deep(self):
        bell = "part bell ring ding 2\n" + chain("hold 2", "row AHEAD AHEAD", 50)
        book = read(LIMBS + bell + f"\npart x again {GREAT} ej\npart y row x bell x\npart z again 12 y")
        size = lengths(book)[-1] // 12
        beat = 2 ** 50 * GREAT
        for turn in (0, 5, 11, 12, 10 ** 60):
            self.assertEqual(soon(meeting, [book], ["ding"], turn * size), turn * size + beat)
        self.assertEqual(soon(meeting, [book, book, book], ["ding"] * 3, size), size + beat)
        book = read(LIMBS + chain("ring ding 1", "row AHEAD", 59) + f"\npart x hold {GREAT}")
        self.assertIsNone(soon(meeting, [book], ["ding"]))
        book = read(LIMBS + chain("ring ding 1", "again 1 AHEAD", 60))
        self.assertEqual(soon(meeting, [book], ["ding"], 10 ** 99), 10 ** 99)


class Broads(unittest.TestCase):
    def refused(self, books, words, *beat):
        with self.assertRaises(Broad):
            soon(meeting, books, words, *beat)

    def test_twelve_and_thirteen(self):
        for size in (13, 40, 10 ** 40):
            twelve, thirteen = ringing(size, range(12)), ringing(size, range(13))
            self.assertEqual(meeting([twelve], ["ding"]), 0)
            self.assertEqual(meeting([twelve] * 3, ["ding"] * 3, 12), size)
            for books in ([thirteen], [thirteen, twelve], [twelve, thirteen], [twelve, twelve, thirteen],
                          [twelve, thirteen, twelve], [thirteen] * 3):
                self.refused(books, ["ding"] * len(books))
                self.refused(books, ["ding"] * len(books), 10 ** 60)

    def test_agains(self):
        text = LIMBS + "part a ring ding 2\npart b again "
        self.assertEqual(meeting([read(text + "12 a")], ["ding"], 23), 24)
        self.refused([read(text + "13 a")], ["ding"])
        self.refused([read(text + f"{GREAT} a")], ["ding"])
        self.refused([far_book(read(CHIMES))], ["dong"])
        self.refused([often(read(HOP.strip()), (GREAT, GREAT, GREAT, 10 ** 4))], ["ding"])
        self.refused([read(side_by_side())], ["ding"])
        self.refused([read(LIMBS + chain("ring ding 1", "row AHEAD AHEAD", 60))], ["ding"])

    # Each ring counts, also where two parts of a side ring at one beat.
    def test_rings_at_one_beat(self):
        book = read(CHIMES)
        self.assertEqual((len(rung_by(book, "ding")), len(set(rung_by(book, "ding")))), (8, 4))
        self.assertEqual([meeting([book], ["ding"], beat) for beat in (0, 1, 3, 4, 6, 8, 9)], [0, 3, 3, 5, 8, 8, 10])
        side = CHIMES[:CHIMES.index("part t")]
        self.assertEqual(rung_by(read(side.strip()), "ding"), [0, 0, 3, 3])
        self.assertEqual(meeting([read(side + "part t again 3 s")], ["ding"], 14), 15)
        self.refused([read(side + "part t again 4 s")], ["ding"])
        self.refused([read(side + "part t again 3 s\npart v row t bell")], ["ding"])
        self.assertEqual(meeting([read(side + "part t again 3 s\npart v row t gong")], ["ding"], 14), 16)

    # Ahead of all else: of that nobody rings the other book's word, or that no beats are common.
    def test_ahead_of_all_else(self):
        twelve, thirteen = ringing(26, range(0, 24, 2)), ringing(26, range(1, 26, 2))
        hold = read(LIMBS + "part a hold 26")
        self.refused([hold, thirteen], ["ding", "ding"])
        self.refused([thirteen, hold], ["ding", "ding"])
        self.refused([twelve, thirteen], ["dong", "ding"])
        self.refused([twelve, thirteen], ["ding", "ding"], 10 ** 60)
        self.refused([hold, twelve, thirteen], ["ding", "ding", "ding"])
        self.assertIsNone(meeting([hold, twelve], ["ding", "ding"]))

    # What counts is how often the book's own word is rung.
    def test_other_words(self):
        book = read(LIMBS + "part a ring ding 1\npart b ring dong 1\npart c again 99 b\npart d row a c")
        self.assertEqual(meeting([book], ["ding"], 1), 100)
        self.assertEqual(meeting([book, book], ["ding", "ding"]), 0)
        self.assertIsNone(meeting([book], ["cuckoo"]))
        self.refused([book], ["dong"])
        self.refused([book, book], ["ding", "dong"])


class Owning(unittest.TestCase):
    def test_what_is_handed_in_stays(self):
        books, words = bells((7, [2, 5]), (3, [2]), (10 ** 40, [0, 1, 2, 10 ** 39]))
        before = copy.deepcopy((books, words))
        for beat in (0, 5, 10 ** 60):
            meeting(books, words, beat)
            self.assertEqual((books, words), before)
        books = [read(CHIMES), far_book(read(CHIMES))]
        before = copy.deepcopy(books)
        self.assertRaises(Broad, meeting, books, ["ding", "dong"])
        self.assertEqual(books, before)


if __name__ == "__main__":
    unittest.main()
