import copy
import unittest

from camplay.books import read, shown
from camplay.drums import book_of, drums
from camplay.looks import ends, lengths, moved
from camplay.standing import rings, stand
from camplay.telling import told
from plays import (HOP, LIMBS, SMALL, Drawn, chain, drawn_books, far_book, forms_of, many_heights, named, names_in,
                   play_by, side_by_side, soon, utmost_book)


def drums_of(text):
    return drums(read(text))[1]


# A part's form with the forms of the parts that it names in the place of their names: two parts come to one drum just
# where these are alike.
def unfolded(book):
    limbs = [name for name, height in book[0]]
    found = {}
    for name, form in book[1]:
        if form[0] == "raise":
            form = (form[0], limbs.index(form[1])) + form[2:]
        elif names_in(form):
            form = (form[0], form[1] if form[0] == "again" else None) + tuple(found[other] for other in names_in(form))
        found[name] = form
    return found


# The names of the parts that a part comes to, its own too.
def names_below(book, name):
    return {name}.union(*(names_below(book, other) for other in names_in(forms_of(book)[name])))


# The drums as the document tells them: of parts that are alike the first one has the drum's place.
def drums_by(book):
    whole = unfolded(book)
    needed = [whole[name] for name in names_below(book, book[1][-1][0])]
    order = []
    for name, form in book[1]:
        if whole[name] in needed and whole[name] not in order:
            order.append(whole[name])
    found = []
    for form in order:
        if form[0] in ("row", "side"):
            form = (form[0], tuple(order.index(other) for other in form[2:]))
        elif form[0] == "again":
            form = (form[0], form[1], order.index(form[2]))
        found.append(form)
    return found


# Each part with a like one beside it, ahead of it or behind; a name in a form stands for either of two like parts.
def doubled(book, salt):
    drawn = Drawn(salt)
    parts = []
    for name, form in book[1]:
        names = tuple(drawn.one((other, "z" + other)) for other in names_in(form))
        if form[0] in ("row", "side"):
            like = (form[0], names)
        else:
            like = form[:2] + names if form[0] == "again" else form
        pair = [(name, form), ("z" + name, like)]
        parts += pair if drawn.below(2) else pair[::-1]
    play = book[1][-1][0]
    return (book[0], parts + [("zz", ("row", ("z" + play, play)))])


def doubled_books():
    return [doubled(book, salt) for salt, book in enumerate(drawn_books())]


class ByHand(unittest.TestCase):
    def test_each_form(self):
        text = "limbs arm 3 leg 5\n" + """part a raise leg 4 2
part b raise arm 9 7
part c hold 6
part d ring ding 8
part e row a c b d a
part f side b a
part g again 12 e
part h row f g"""
        self.assertEqual(drums(read(text)), ([("arm", 3), ("leg", 5)], [
            ("raise", 1, 4, 2), ("raise", 0, 9, 7), ("hold", 6), ("ring", "ding", 8), ("row", (0, 2, 1, 3, 0)),
            ("side", (1, 0)), ("again", 12, 4), ("row", (5, 6))]))

    def test_one_part(self):
        self.assertEqual(drums_of(LIMBS + "part a hold 3"), [("hold", 3)])
        self.assertEqual(drums_of(LIMBS + "part a ring a 3"), [("ring", "a", 3)])
        self.assertEqual(drums_of(LIMBS + "part a raise leg 0 3"), [("raise", 1, 0, 3)])

    def test_like_forms_are_made_once(self):
        text = LIMBS + ("part a hold 3\npart b hold 3\npart c ring ding 3\npart d ring ding 3\npart e raise arm 3 3\n"
                        "part f raise arm 3 3\npart g row a b c d e f")
        self.assertEqual(drums_of(text), [("hold", 3), ("ring", "ding", 3), ("raise", 0, 3, 3),
                                          ("row", (0, 0, 1, 1, 2, 2))])

    # Parts that name parts that are alike are alike.
    def test_like_forms_within_forms(self):
        text = LIMBS + ("part a raise arm 4 3\npart b raise leg 4 3\npart c raise arm 4 3\npart d raise leg 4 3\n"
                        "part e side a b\npart f side c d\npart g again 2 e\npart h again 2 f\npart i row e g\n"
                        "part j row f h\npart k row i j")
        self.assertEqual(drums_of(text), [("raise", 0, 4, 3), ("raise", 1, 4, 3), ("side", (0, 1)), ("again", 2, 2),
                                          ("row", (2, 3)), ("row", (4, 4))])

    # What plays the same is not alike for that: only like forms are.
    def test_unlike_forms(self):
        text = LIMBS + ("part a raise arm 4 3\npart b raise leg 4 3\npart c side a b\npart d side b a\npart e row a\n"
                        "part f again 1 a\npart g row a a\npart h again 2 a\npart i raise arm 4 4\n"
                        "part j raise arm 3 4\npart k hold 4\npart l ring x 4\npart m ring y 4\npart n ring y 3\n"
                        "part o row c d e f g h i j\npart p row k l m n o")
        self.assertEqual(len(drums_of(text)), 16)

    # Kinds, words and numbers that stand at the same places do not make forms alike.
    def test_numbers_of_limbs_and_of_drums_do_not_meet(self):
        text = ("limbs a 0 b 0\npart a raise a 1 1\npart b raise b 1 1\npart c row a b\npart d side a b\n"
                "part e again 1 a\npart f hold 1\npart g row c d e f")
        self.assertEqual(drums_of(text), [("raise", 0, 1, 1), ("raise", 1, 1, 1), ("row", (0, 1)), ("side", (0, 1)),
                                          ("again", 1, 0), ("hold", 1), ("row", (2, 3, 4, 5))])

    def test_drums_that_are_left_out(self):
        text = LIMBS + ("part a hold 1\npart b hold 2\npart c row a\npart d hold 3\npart e row c b\npart f row b d b\n"
                        "part g hold 4\npart h again 2 f")
        self.assertEqual(drums_of(text), [("hold", 2), ("hold", 3), ("row", (0, 1, 0)), ("again", 2, 2)])
        self.assertEqual(drums_of(text + "\npart i hold 9"), [("hold", 9)])

    # The play is alike to an earlier part: what stands between them is left out.
    def test_a_play_that_is_alike_to_an_earlier_part(self):
        text = LIMBS + "part a hold 1\npart b row a a\npart c hold 2\npart d again 5 b\npart e hold 1\n"
        self.assertEqual(drums_of(text + "part f row a e"), [("hold", 1), ("row", (0, 0))])
        self.assertEqual(drums_of(text.strip()), [("hold", 1)])
        self.assertEqual(drums_of(text + "part f hold 2"), [("hold", 2)])

    # A part that the play does not name has the first place of a drum that it comes to by a later part.
    def test_the_order_is_that_of_the_first_like_part(self):
        text = LIMBS + "part a hold 1\npart b raise arm 2 2\npart c hold 1\npart d row b c"
        self.assertEqual(drums_of(text), [("hold", 1), ("raise", 0, 2, 2), ("row", (1, 0))])
        text = LIMBS + "part b raise arm 2 2\npart c hold 1\npart a hold 1\npart d row b c"
        self.assertEqual(drums_of(text), [("raise", 0, 2, 2), ("hold", 1), ("row", (0, 1))])

    # A limb that no drum raises stays a limb.
    def test_all_limbs_are_kept(self):
        box = drums(read("limbs z 3 a 10 m 0\npart a raise a 1 1\npart b hold 2"))
        self.assertEqual(box, ([("z", 3), ("a", 10), ("m", 0)], [("hold", 2)]))

    def test_parts_called_as_limbs_are(self):
        box = drums(read("limbs arm 0 leg 5\npart leg raise arm 6 1\npart arm raise leg 7 1\npart ding row arm leg"))
        self.assertEqual(box[1], [("raise", 0, 6, 1), ("raise", 1, 7, 1), ("row", (1, 0))])
        self.assertEqual(book_of(box)[1], [("a", ("raise", "arm", 6, 1)), ("b", ("raise", "leg", 7, 1)),
                                           ("c", ("row", ("b", "a")))])

    def test_kinds(self):
        for text in SMALL:
            box = drums(read(text))
            book = book_of(box)
            for found in (box, book):
                self.assertIs(type(found), tuple)
                self.assertEqual([type(one) for one in found], [list, list])
                self.assertEqual({type(one) for side in found for one in side}, {tuple})
            for name, form in book[1]:
                self.assertEqual((type(name), type(form)), (str, tuple))
            for form in box[1]:
                numbers = form[1] if form[0] in ("row", "side") else form[2:] if form[0] == "again" else ()
                self.assertEqual((type(numbers), {type(number) for number in numbers} | {int}), (tuple, {int}))


class ReadBack(unittest.TestCase):
    def test_each_form(self):
        limbs = [("arm", 3), ("leg", 5)]
        box = (limbs, [("raise", 1, 4, 2), ("raise", 0, 9, 7), ("hold", 6), ("ring", "ding", 8),
                       ("row", (0, 2, 1, 3, 0)), ("side", (1, 0)), ("again", 12, 4), ("row", (5, 6))])
        self.assertEqual(book_of(box), (limbs, [
            ("a", ("raise", "leg", 4, 2)), ("b", ("raise", "arm", 9, 7)), ("c", ("hold", 6)),
            ("d", ("ring", "ding", 8)), ("e", ("row", ("a", "c", "b", "d", "a"))), ("f", ("side", ("b", "a"))),
            ("g", ("again", 12, "e")), ("h", ("row", ("f", "g")))]))

    # So many drums, each of its own length, and the last one names some of them.
    def names_of(self, many, named_ones):
        box = ([("arm", 0)], [("hold", number + 1) for number in range(many)] + [("row", named_ones)])
        parts = book_of(box)[1]
        names = [name for name, form in parts]
        self.assertEqual(parts[-1][1], ("row", tuple(names[number] for number in named_ones)))
        return names

    def test_names(self):
        names = self.names_of(59, (25, 26, 0, 58, 52, 51))
        self.assertEqual("".join(names[:26]), "abcdefghijklmnopqrstuvwxyz")
        self.assertEqual(names[26:29] + names[50:54], ["ba", "bb", "bc", "by", "bz", "ca", "cb"])
        self.assertEqual((names[59], len(names)), ("ch", 60))

    def test_names_of_three_figures(self):
        names = self.names_of(1400, (675, 676, 701, 702, 1351, 1352))
        self.assertEqual([names[number] for number in (675, 676, 677, 701, 702, 1351, 1352)],
                         ["zz", "baa", "bab", "baz", "bba", "bzz", "caa"])
        self.assertEqual(len(set(names)), 1401)

    def test_sixty_drums(self):
        for text in (LIMBS + chain("raise leg 3 1", "again 9 AHEAD", 60), side_by_side(), many_heights()):
            book = read(text)
            box = drums(book)
            self.assertEqual(drums(book_of(box)), box)
        self.assertEqual(len(drums(read(side_by_side()))[1]), 60)

    def same(self, book):
        box = drums(book)
        back = book_of(box)
        self.assertEqual(drums(back), box, book)
        self.assertEqual(read(shown(back)), back)
        self.assertEqual(back[0], book[0])
        for look in (lengths, ends, moved):
            self.assertEqual(look(back)[-1], look(book)[-1])
        self.assertEqual(len(set(box[1])), len(box[1]))
        return back

    def test_small_books_are_read_back(self):
        for text in SMALL:
            book = read(text)
            self.assertEqual(told(self.same(book)), told(book))

    def test_made_books_are_read_back(self):
        for book in drawn_books() + doubled_books():
            self.assertEqual(play_by(self.same(book)), play_by(book))

    def test_long_plays_are_read_back(self):
        for base in drawn_books()[:30]:
            for book in (far_book(base), utmost_book(base)):
                back = self.same(book)
                last = lengths(book)[-1]
                for beat in (0, 1, last // 3, last // 7 * 5, last - 1, last):
                    self.assertEqual((stand(back, beat), rings(back, beat)), (stand(book, beat), rings(book, beat)))


class Whole(unittest.TestCase):
    def test_against_the_words(self):
        for book in [read(text) for text in SMALL] + drawn_books() + doubled_books():
            self.assertEqual(drums(book), (book[0], drums_by(book)))

    def test_the_made_books_are_not_dull(self):
        for book in doubled_books():
            self.assertEqual(len(drums(book)[1]), len(drums((book[0], book[1][:-1]))[1]) + 1)
            self.assertLess(len(drums(book)[1]), len(names_below(book, "zz")))
        books = [book for book in drawn_books() if len(drums(book)[1]) < len(book[1])]
        self.assertGreater(len(books), 100)

    # Each drum that stands there is come to from the last one.
    def test_each_drum_is_needed(self):
        for book in drawn_books() + doubled_books():
            found = drums(book)[1]
            needed = {len(found) - 1}
            for number in range(len(found) - 1, -1, -1):
                self.assertIn(number, needed)
                form = found[number]
                numbers = form[1] if form[0] in ("row", "side") else form[2:] if form[0] == "again" else ()
                self.assertTrue(all(other < number for other in numbers))
                needed.update(numbers)

    # Two chains of rows, alike from the first part on, each row naming eight of those ahead.
    def test_chains_named_often(self):
        eight = "row" + " AHEAD" * 8
        text = LIMBS + chain("raise leg 3 1", eight, 29) + "\n" + chain("raise leg 3 1", eight, 29, begin=100)
        found = soon(drums_of, text + f"\npart x row {named(28)} {named(128)}")
        rows = [("row", (number,) * 8) for number in range(28)]
        self.assertEqual(found, [("raise", 1, 3, 1)] + rows + [("row", (28, 28))])


class Owning(unittest.TestCase):
    def test_what_is_handed_in_stays(self):
        for book in drawn_books()[:40] + [utmost_book(read(HOP.strip()))]:
            before = copy.deepcopy(book)
            box = drums(book)
            self.assertEqual(book, before)
            before = copy.deepcopy(box)
            book_of(box)
            self.assertEqual(box, before)

    def test_lists_that_were_told_are_the_askers_own(self):
        for book in drawn_books()[:40]:
            before = copy.deepcopy(book)
            box = drums(book)
            as_told = copy.deepcopy(box)
            box[0].append(("more", 1))
            box[1].clear()
            self.assertEqual(book, before)
            self.assertEqual(drums(book), as_told)
            box = drums(book)
            back = book_of(box)
            read_back = copy.deepcopy(back)
            back[0][0] = ("other", 99)
            back[1].pop()
            self.assertEqual(box, as_told)
            self.assertEqual(book_of(box), read_back)

    def test_what_is_done_later_to_what_was_handed_in(self):
        book = read(HOP.strip())
        box = drums(book)
        as_told = copy.deepcopy(box)
        book[0].clear()
        book[1].clear()
        self.assertEqual(box, as_told)
        back = book_of(box)
        read_back = copy.deepcopy(back)
        box[0].clear()
        box[1].clear()
        self.assertEqual(back, read_back)


if __name__ == "__main__":
    unittest.main()
