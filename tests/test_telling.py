import copy
import unittest

from camplay.books import read
from camplay.errors import Long
from camplay.telling import told
from plays import LIMBS, chain, drawn_books, named, play_by


def heights_told(text):
    return [heights for heights, words in told(read(text))]


def words_told(text):
    return [words for heights, words in told(read(text))]


class EachForm(unittest.TestCase):
    def test_a_raise(self):
        self.assertEqual(told(read("limbs arm 0\npart up raise arm 10 3")),
                         [([0], []), ([3], []), ([6], []), ([10], [])])
        self.assertEqual(heights_told("limbs arm 10\npart up raise arm 0 3"), [[10], [6], [3], [0]])
        self.assertEqual(heights_told("limbs arm 4\npart up raise arm 9 1"), [[4], [9]])
        self.assertEqual(heights_told("limbs arm 4\npart up raise arm 4 2"), [[4], [4], [4]])

    def test_a_hold(self):
        self.assertEqual(told(read(LIMBS + "part wait hold 2")), [([0, 5], []), ([0, 5], []), ([0, 5], [])])

    def test_a_ring(self):
        self.assertEqual(told(read(LIMBS + "part bell ring ding 2")), [([0, 5], ["ding"]), ([0, 5], []), ([0, 5], [])])
        self.assertEqual(words_told(LIMBS + "part bell ring ding 1"), [["ding"], []])

    def test_a_row(self):
        text = LIMBS + ("part up raise arm 4 2\npart step raise leg 0 1\npart bell ring ding 1\n"
                        "part play row up bell step up bell")
        self.assertEqual(told(read(text)), [([0, 5], []), ([2, 5], []), ([4, 5], ["ding"]), ([4, 5], []), ([4, 0], []),
                                            ([4, 0], []), ([4, 0], ["ding"]), ([4, 0], [])])

    def test_an_again(self):
        text = LIMBS + ("part up raise arm 4 2\npart down raise arm 1 1\npart bell ring ding 1\n"
                        "part a row bell up down\n")
        self.assertEqual(heights_told(text + "part play again 2 a"),
                         [[0, 5], [0, 5], [2, 5], [4, 5], [1, 5], [1, 5], [2, 5], [4, 5], [1, 5]])
        self.assertEqual(words_told(text + "part play again 2 a"), [["ding"], [], [], [], ["ding"], [], [], [], []])
        self.assertEqual(told(read(text + "part play again 1 a")), told(read(text + "part play row a")))

    def test_a_side_whose_parts_are_over_at_unlike_beats(self):
        text = LIMBS + "part up raise arm 4 4\npart step raise leg 1 2\npart play side up step"
        self.assertEqual(heights_told(text), [[0, 5], [1, 3], [2, 1], [3, 1], [4, 1]])
        self.assertEqual(heights_told(text.replace("side up step", "side step up")), heights_told(text))

    def test_what_comes_behind_a_side_begins_when_its_last_part_is_over(self):
        text = LIMBS + ("part up raise arm 4 4\npart step raise leg 1 2\npart both side up step\n"
                        "part down raise leg 3 2\npart bell ring ding 1\npart play row both bell down both")
        self.assertEqual(heights_told(text), [[0, 5], [1, 3], [2, 1], [3, 1], [4, 1], [4, 1], [4, 2], [4, 3], [4, 2],
                                              [4, 1], [4, 1], [4, 1]])
        self.assertEqual(words_told(text), [[]] * 4 + [["ding"]] + [[]] * 7)

    def test_the_last_part_is_the_play(self):
        text = LIMBS + "part bell ring ding 3\npart up raise arm 4 4\npart wait hold 1"
        self.assertEqual(told(read(text)), [([0, 5], []), ([0, 5], [])])

    def test_a_part_called_as_a_limb_is(self):
        text = "limbs arm 0 leg 5\npart arm raise leg 6 1\npart leg row arm"
        self.assertEqual(heights_told(text), [[0, 5], [0, 6]])

    def test_kinds(self):
        found = told(read(LIMBS + "part up raise arm 4 2\npart bell ring ding 1\npart play row up bell"))
        self.assertIs(type(found), list)
        for pair in found:
            self.assertIs(type(pair), tuple)
            self.assertEqual([type(one) for one in pair], [list, list])


class Words(unittest.TestCase):
    SIDES = LIMBS.strip() + " head 1\n" + """part up raise arm 9 3
part step raise leg 9 3
part nod raise head 9 3
part ding ring ding 1
part dong ring dong 1
part gong ring gong 1
part a row ding up ding
part b row dong step gong
part c row gong nod dong
"""

    def test_the_part_named_ahead_goes_ahead(self):
        for names, first, last in (("a b", ["ding", "dong"], ["ding", "gong"]),
                                   ("b a", ["dong", "ding"], ["gong", "ding"]),
                                   ("c a b", ["gong", "ding", "dong"], ["dong", "ding", "gong"]),
                                   ("c b a", ["gong", "dong", "ding"], ["dong", "gong", "ding"])):
            self.assertEqual(words_told(self.SIDES + "part s side " + names), [first, [], [], [], last, []])

    def test_sides_within_sides(self):
        text = self.SIDES + "part x side c b\npart y row x\npart z side y a\npart w side a y\n"
        self.assertEqual(words_told(text + "part p row z w"),
                         [["gong", "dong", "ding"], [], [], [], ["dong", "gong", "ding"],
                          ["ding", "gong", "dong"], [], [], [], ["ding", "dong", "gong"], []])

    def test_one_word_more_than_once_at_a_beat(self):
        text = LIMBS + ("part up raise arm 9 1\npart step raise leg 9 2\npart bell ring ding 1\npart a row bell up\n"
                        "part b row bell step\npart s side a b")
        self.assertEqual(words_told(text), [["ding", "ding"], [], [], []])

    def test_a_part_that_is_over_rings_nothing_any_more(self):
        text = LIMBS + ("part up raise arm 9 1\npart step raise leg 9 2\npart bell ring ding 1\npart a row bell up\n"
                        "part b row step bell bell\npart s side b a\npart t again 2 s")
        self.assertEqual(words_told(text), [["ding"], [], ["ding"], ["ding"]] * 2 + [[]])

    def test_nothing_is_rung_at_the_end(self):
        for form in ("hold 3", "ring ding 3", "ring ding 1"):
            self.assertEqual(words_told(LIMBS + "part x " + form)[-1], [])
        for book in drawn_books():
            self.assertEqual(told(book)[-1][1], [])


class Whole(unittest.TestCase):
    def test_made_books_against_the_words(self):
        for book in drawn_books():
            self.assertEqual(told(book), play_by(book))

    def test_the_made_books_are_not_dull(self):
        plays = [play_by(book) for book in drawn_books()]
        self.assertEqual({book[1][-1][1][0] for book in drawn_books()}, {"row", "side", "again"})
        self.assertGreater(len([1 for play in plays if any(len(words) > 1 for heights, words in play)]), 10)
        self.assertGreater(len([1 for play in plays if len(play) > 50]), 20)

    def test_great_heights(self):
        great = 10 ** 18
        text = f"limbs arm {great}\npart down raise arm 0 2\npart up raise arm {great} 1\npart p row down up"
        self.assertEqual(heights_told(text), [[great], [great // 2], [0], [great]])

    def test_long_chains(self):
        for form in ("row AHEAD", "again 1 AHEAD"):
            self.assertEqual(heights_told(LIMBS + chain("raise leg 2 3", form, 60)), [[0, 5], [0, 4], [0, 3], [0, 2]])

    # Books that lie somewhat beyond the bounds are not refused for it.
    def test_a_chain_somewhat_beyond_sixty(self):
        parts = [("first", ("raise", "arm", 2, 1))]
        for number in range(400):
            parts.append((named(number), ("row", (parts[-1][0],))))
        self.assertEqual(told(([("arm", 0)], parts)), [([0], []), ([2], [])])


class TooManyBeats(unittest.TestCase):
    def test_three_hundred_beats_are_told(self):
        found = told(read(LIMBS + "part up raise arm 300 300"))
        self.assertEqual(found, [([j, 5], []) for j in range(301)])
        found = told(read(LIMBS + "part bell ring ding 1\npart play again 300 bell"))
        self.assertEqual(found, [([0, 5], ["ding"])] * 300 + [([0, 5], [])])

    def test_three_hundred_and_one_are_refused(self):
        for rows in ("part up raise arm 300 301", "part wait hold 301", "part bell ring ding 301",
                     "part bell ring ding 1\npart play again 301 bell",
                     "part a hold 300\npart b hold 1\npart c row a b",
                     "part a raise arm 3 301\npart b raise leg 3 1\npart c side b a"):
            with self.assertRaises(Long, msg=rows):
                told(read(LIMBS + rows))

    def test_far_more_are_refused_at_once(self):
        with self.assertRaises(Long):
            told(read(LIMBS + chain("raise leg 2 1", "again 10 AHEAD", 60)))
        with self.assertRaises(Long):
            told(read(LIMBS + chain("raise leg 2 1", "row" + " AHEAD" * 8, 60)))

    def test_only_the_play_counts(self):
        self.assertEqual(len(told(read(LIMBS + "part a hold 301\npart b again 1000 a\npart c hold 1"))), 2)


class Owning(unittest.TestCase):
    def test_what_is_handed_in_stays(self):
        for book in drawn_books()[:40]:
            before = copy.deepcopy(book)
            told(book)
            self.assertEqual(book, before)

    def test_lists_that_were_told_are_the_askers_own(self):
        for book in drawn_books()[:40]:
            found = told(book)
            before = copy.deepcopy(found)
            for heights, words in found:
                heights[0] += 1
                words.append("gong")
            found.clear()
            self.assertEqual(told(book), before)

    def test_no_list_stands_twice_in_what_is_told(self):
        found = told(read(LIMBS + "part wait hold 20"))
        lists = [one for pair in found for one in pair]
        self.assertEqual(len({id(one) for one in lists}), len(lists))


if __name__ == "__main__":
    unittest.main()
