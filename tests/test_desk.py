import unittest

from camplay.books import read, shown
from camplay.counting import height_count, height_sum, ring_count
from camplay.desk import Desk
from camplay.drums import book_of, drums
from camplay.errors import Broad, Idle, NoBeat, NoBook, NoLimb, NoName, NoRow, TooLong, TwoHands
from camplay.ever import stand_ever
from camplay.finding import first_at, ring_beat
from camplay.jumps import first_jump
from camplay.looks import lengths
from camplay.meeting import meeting
from camplay.standing import rings, stand
from plays import CHIMES, GREAT, HOP, LIMBS, SMALL, chain, drawn_books, many_heights, side_by_side, soon, utmost_book

# A play of 4 beats: the leg falls by 2 twice, ding is rung at 0 and dong at 3.
WALK = """limbs arm 0 leg 5
part up raise arm 4 4
part step raise leg 1 2
part bell ring ding 1
part gong ring dong 1
part walk row bell step gong
part both side up walk"""
BELLS = LIMBS + "part a ring ding 2\npart b hold 4\npart c row b a a b a"
FAR = LIMBS + chain("raise arm 7 3", "row AHEAD AHEAD", 59) + "\npart p again 1000 fi"
# A row of each kind that the desk with the books walk, bells and far answers.
ROWS = ("length walk", "stand walk 2", "rings walk 2", "sum walk arm 2", "at walk arm 3 4", "rung walk ding 2",
        "when walk ding 0", "first walk leg 3 0", "jump walk 1", "drums walk", "back walk", "ever walk 9",
        "meet 5 walk ding", "meet 5 walk ding bells ding", "meet 5 walk ding bells ding far ding")


def desk_with(**texts):
    desk = Desk()
    for name, text in texts.items():
        desk.put(name, text.strip())
    return desk


def full_desk():
    return desk_with(walk=WALK, bells=BELLS, far=FAR, hop=HOP, chimes=CHIMES)


class Rows(unittest.TestCase):
    def says(self, row, answer):
        found = full_desk().say(row)
        self.assertEqual(found, answer, row)
        self.assertIs(type(found), str)

    def test_length(self):
        self.says("length walk", "4")
        self.says("length hop", "12")
        self.says("length far", str(3000 * 2 ** 58))

    def test_stand(self):
        self.says("stand walk 0", "0 5")
        self.says("stand walk 2", "2 3")
        self.says("stand walk 4", "4 1")
        self.says(f"stand far {10 ** 20}", "7 5")
        self.assertEqual(desk_with(one="limbs arm 3\npart a raise arm 9 2").say("stand one 1"), "6")

    def test_rings(self):
        self.says("rings walk 0", "ding")
        self.says("rings walk 1", "none")
        self.says("rings walk 3", "dong")
        self.says("rings walk 4", "none")
        self.says("rings chimes 0", "ding ding")
        self.assertEqual(desk_with(a=CHIMES.replace("ding", "none")).say("rings a 3"), "none none")

    def test_sum(self):
        self.says("sum walk leg 0", "0")
        self.says("sum walk leg 3", "13")
        self.says("sum walk leg 5", "15")
        self.says("sum walk arm 5", "10")

    def test_at(self):
        self.says("at walk leg 5 5", "2")
        self.says("at walk leg 1 4", "1")
        self.says("at walk arm 5 5", "0")
        self.says("at walk leg 5 0", "0")

    def test_rung(self):
        self.says("rung walk ding 0", "0")
        self.says("rung walk ding 1", "1")
        self.says("rung walk dong 3", "0")
        self.says("rung walk dong 5", "1")
        self.says("rung chimes ding 10", "8")

    def test_when(self):
        self.says("when walk ding 0", "0")
        self.says("when walk dong 0", "3")
        self.says("when walk dong 1", "never")
        self.says("when chimes ding 7", "8")
        self.says("when chimes ding 8", "never")
        self.says("when walk cuckoo 0", "never")

    def test_first(self):
        self.says("first walk leg 3 0", "2")
        self.says("first walk leg 1 4", "4")
        self.says("first walk leg 5 2", "never")
        self.says("first walk leg 4 0", "never")

    # A change below 0 with its sign.
    def test_jump(self):
        self.says("jump walk 0", "0 arm 1")
        self.says("jump walk 1", "1 leg -2")
        self.says("jump walk 2", "never")
        self.says("jump hop 1", "0 leg -3")
        desk = desk_with(a="limbs x 0 y 0\npart a raise x 1000 1\npart b raise x 1 1\npart c row a b")
        self.assertEqual([desk.say(f"jump a {most}") for most in (0, 998, 999, 1000)],
                         ["0 x 1000", "0 x 1000", "0 x 1000", "never"])
        desk.put("a", f"limbs x {GREAT} y 0\npart a raise x 0 1\npart b hold 7\npart c row b a")
        self.assertEqual(desk.say("jump a 5"), f"7 x -{GREAT}")

    def test_drums(self):
        self.says("drums walk", "6")
        text = LIMBS + "part a hold 1\npart b hold 1\npart c hold 2\npart d row a b"
        self.assertEqual(desk_with(a=text).say("drums a"), "2")

    def test_back(self):
        self.says("back bells", "limbs arm 0 leg 5 / part a ring ding 2 / part b hold 4 / part c row b a a b a")
        self.says("back walk", "limbs arm 0 leg 5 / part a raise arm 4 4 / part b raise leg 1 2 / part c ring ding 1 / "
                               "part d ring dong 1 / part e row c b d / part f side a e")
        text = LIMBS + "part x hold 1\npart y hold 1\npart z hold 2\npart w again 3 y"
        self.assertEqual(desk_with(a=text).say("back a"), "limbs arm 0 leg 5 / part a hold 1 / part b again 3 a")

    def test_ever(self):
        self.says("ever walk 2", "2 3")
        self.says("ever walk 4", "4 1")
        self.says("ever walk 6", "4 1")
        self.says("ever hop 13", "1 2")
        self.says(f"ever hop {12 * 10 ** 70 + 1}", "1 2")

    def test_meet(self):
        self.says("meet 0 walk ding", "0")
        self.says("meet 1 walk ding", "4")
        self.says("meet 1 walk dong", "3")
        self.says("meet 0 walk ding bells ding", "4")
        self.says("meet 5 walk ding bells ding", "12")
        self.says("meet 13 walk ding bells ding", "20")
        self.says("meet 0 walk ding walk dong", "never")
        self.says("meet 0 walk ding bells ding chimes ding", "20")
        self.says("meet 0 walk ding walk ding walk ding", "0")
        self.says("meet 5 far ding walk ding", "never")

    # A WORD may be any word without blanks; a HEIGHT any number.
    def test_words_that_nobody_rings_and_heights_that_there_are_not(self):
        for word in ("cuckoo", "Ding", "ding1", "a" * 99, "7", "-", "di\tng", "\u00e4"):
            self.says(f"rung walk {word} 4", "0")
            self.says(f"when walk {word} 0", "never")
            self.says(f"meet 0 walk {word}", "never")
            self.says(f"meet 0 walk ding bells {word}", "never")
        for height in ("6", str(GREAT + 1), "9" * 80):
            self.says(f"at walk arm {height} 5", "0")
            self.says(f"first walk arm {height} 0", "never")


class AsTheModulesTell(unittest.TestCase):
    def beat_or_never(self, beat):
        return "never" if beat is None else str(beat)

    def list_of(self, values):
        return " ".join(str(value) for value in values)

    def same(self, book, beats):
        desk = desk_with(book=shown(book))
        last = lengths(book)[-1]
        box = drums(book)
        self.assertEqual(desk.say("length book"), str(last))
        self.assertEqual(desk.say("drums book"), str(len(box[1])))
        self.assertEqual(read(desk.say("back book").replace(" / ", "\n")), book_of(box))
        for most in (0, 1, 3, 10 ** 17):
            found = first_jump(book, most)
            self.assertEqual(desk.say(f"jump book {most}"), "never" if found is None else self.list_of(found))
        for beat in beats:
            self.assertEqual(desk.say(f"stand book {beat}"), self.list_of(stand(book, beat)))
            self.assertEqual(desk.say(f"rings book {beat}"), self.list_of(rings(book, beat)) or "none")
            self.assertEqual(desk.say(f"ever book {beat + last}"), self.list_of(stand_ever(book, beat + last)))
            self.assertEqual(desk.say(f"rung book ding {beat + 1}"), str(ring_count(book, "ding", beat + 1)))
            self.assertEqual(desk.say(f"when book ding {beat}"), self.beat_or_never(ring_beat(book, "ding", beat)))
            for limb, first in book[0]:
                self.assertEqual(desk.say(f"sum book {limb} {beat}"), str(height_sum(book, limb, beat)))
                self.assertEqual(desk.say(f"at book {limb} {first} {beat}"),
                                 str(height_count(book, limb, first, beat)))
                self.assertEqual(desk.say(f"first book {limb} {first} {beat}"),
                                 self.beat_or_never(first_at(book, limb, first, beat)))
        if ring_count(book, "ding", last) <= 12:
            self.assertEqual(desk.say("meet 9 book ding book ding"),
                             self.beat_or_never(meeting([book, book], ["ding", "ding"], 9)))

    def test_small_and_made_books(self):
        for book in [read(text) for text in SMALL] + drawn_books()[:25]:
            last = lengths(book)[-1]
            self.same(book, sorted({0, 1, last // 2, last - 1, last}))

    def test_long_plays(self):
        for book in [utmost_book(book) for book in drawn_books()[:4]] + [read(many_heights()), read(side_by_side())]:
            last = lengths(book)[-1]
            self.same(book, (0, last // 3, last))

    # One row at a time within a second, of plays as long as they may be.
    def test_time(self):
        for text in (many_heights(), side_by_side(), LIMBS + chain("raise arm 7 3", "row" + " AHEAD" * 8, 60)):
            desk = desk_with(far=text)
            limb = text.split(" ")[1]
            last = int(desk.say("length far"))
            for row in (f"stand far {last // 3}", f"rings far {last // 3}", f"sum far {limb} {last // 3}",
                        f"at far {limb} 5 {last}", f"rung far ding {last}", "when far ding 999999999999999999",
                        f"first far {limb} 5 {last // 3}", "jump far 0", "jump far 5", "drums far", "back far",
                        f"ever far {10 ** 79}"):
                soon(desk.say, row)


class Numbers(unittest.TestCase):
    # A nought ahead, signs, other figures, blanks and line ends make it none.
    def test_numbers_that_are_none(self):
        desk = full_desk()
        for number in ("00", "01", "-1", "+1", "-0", "1.0", "1e2", "0x1", "1_0", "x", "one", "1\n", "\t1", "1\t",
                       "\u0661", "\u00b2", "9" * 81, "0" * 80, "1" + "0" * 80):
            for row in (f"stand walk {number}", f"rings walk {number}", f"sum walk arm {number}",
                        f"at walk arm {number} 1", f"at walk arm 1 {number}", f"rung walk ding {number}",
                        f"when walk ding {number}", f"first walk arm {number} 1", f"first walk arm 1 {number}",
                        f"jump walk {number}", f"ever walk {number}", f"meet {number} walk ding"):
                with self.assertRaises(NoRow, msg=row):
                    desk.say(row)

    def test_eighty_figures(self):
        desk = full_desk()
        for number in ("9" * 80, "1" + "0" * 79):
            for row in ("stand walk", "rings walk", "sum walk arm", "at walk arm 1", "rung walk ding",
                        "first walk arm 1"):
                with self.assertRaises(NoBeat, msg=row):
                    desk.say(f"{row} {number}")
            self.assertEqual(desk.say(f"at walk arm {number} 1"), "0")
            self.assertEqual(desk.say(f"when walk ding {number}"), "never")
            self.assertEqual(desk.say(f"first walk arm {number} 1"), "never")
            self.assertEqual(desk.say(f"jump walk {number}"), "never")
        self.assertEqual(desk.say("ever walk " + "9" * 80), "4 1")
        self.assertEqual(desk.say("meet " + "9" * 80 + " walk ding"), "1" + "0" * 80)
        self.assertEqual(desk.say("meet 1" + "0" * 79 + " walk ding"), "1" + "0" * 79)

    def test_nought(self):
        desk = full_desk()
        for row, answer in (("stand walk 0", "0 5"), ("when walk ding 0", "0"), ("at walk arm 0 1", "1"),
                            ("jump walk 0", "0 arm 1"), ("meet 0 walk ding", "0"), ("ever walk 0", "0 5")):
            self.assertEqual(desk.say(row), answer)


class NoRows(unittest.TestCase):
    def refused(self, *rows):
        desk = full_desk()
        for row in rows:
            with self.assertRaises(NoRow, msg=repr(row)):
                desk.say(row)

    def test_the_rows_are_answered(self):
        desk = full_desk()
        for row in ROWS:
            self.assertNotEqual(desk.say(row), "")

    def test_other_first_words(self):
        self.refused("", "walk", "lengths walk", "Length walk", "LENGTH walk", "len walk", "part walk", "put walk x",
                     "say walk", "heights walk 0", "none", "never walk", "0", "count walk arm 1", "told walk",
                     "machine walk", "step walk", "limbs arm 0")
        self.refused(*(row.upper() for row in ROWS))
        self.refused(*("x" + row for row in ROWS))

    def test_too_few_words(self):
        for row in ROWS:
            words = row.split(" ")
            counts = [count for count in range(1, len(words)) if words[0] != "meet" or count not in (4, 6)]
            self.refused(*(" ".join(words[:count]) for count in counts))

    def test_too_many_words(self):
        for row in ROWS:
            for more in (" 1", " arm", " walk", " ding", " x y z", " 1 1 1 1 1 1 1"):
                self.refused(row + more)

    def test_meet_of_none_and_of_four(self):
        self.refused("meet", "meet 0", "meet 0 walk", "meet 0 walk ding bells", "meet 0 walk ding bells ding far",
                     "meet 0 walk ding walk ding walk ding walk", "meet 0 walk ding walk ding walk ding walk ding",
                     "meet 0" + " walk ding" * 5, "meet walk ding", "meet walk ding 0", "meet 0 0 walk ding")

    def test_blanks_too_many(self):
        for row in ROWS:
            self.refused(" " + row, row + " ", "  " + row, row + "  ", row.replace(" ", "  "))
            for place, sign in enumerate(row):
                if sign == " ":
                    self.refused(row[:place] + " " + row[place:])
        self.refused(" ", "  ", "   ", "length ", "length  ", "drums ", "back ", " walk", "stand  2", "stand walk ",
                     "sum walk  2", "rung walk  2", "when walk  0", "at walk  3 4", "meet 5 walk ", "meet 5  ding",
                     "meet  walk ding")

    # A tab or a line end parts no words.
    def test_tabs_and_line_ends(self):
        for sign in "\t\n\r\x0b\x0c\x00\xa0\u2003\u2028":
            for row in ROWS:
                self.refused(sign + row, row.replace(" ", sign), row.replace(" ", sign, 1))
                self.refused(row.replace(" ", f" {sign} "), row.replace(" ", f" {sign} ", 1))
            self.refused("stand walk 2" + sign, "ever walk 9" + sign, "at walk arm 3 4" + sign, sign)


class Order(unittest.TestCase):
    def refused(self, error, *rows):
        desk = full_desk()
        for row in rows:
            with self.assertRaises(error, msg=repr(row)):
                desk.say(row)

    # What is wrong with the row goes ahead of a name, a limb and a beat that are wrong too.
    def test_no_row_ahead_of_no_name(self):
        self.refused(NoRow, "length other more", "stand other", "stand other x", "stand other 01", "rings other -1",
                     "sum other arm", "sum other other x", "at other arm 1 x", "at other arm x 1", "rung other ding x",
                     "when other ding", "first other nose 1 01", "jump other -1", "jump other x", "drums other other",
                     "back other other", "ever other x", "meet x other ding", "meet 0 other ding other",
                     "meet 0 other ding other ding other ding other ding", "lengths other", "ever other " + "9" * 81)

    def test_no_row_ahead_of_no_limb(self):
        self.refused(NoRow, "sum walk nose x", "sum walk nose", "at walk nose 1 x", "at walk nose x 1",
                     "at walk nose 1", "first walk nose x 1", "first walk nose 1 x", "first walk nose 01 1")

    def test_no_name(self):
        self.refused(NoName, "length other", "stand other 2", "rings other 2", "sum other arm 2", "at other arm 3 4",
                     "rung other ding 2", "when other ding 0", "first other leg 3 0", "jump other 1", "drums other",
                     "back other", "ever other 9", "meet 5 other ding", "meet 5 walk ding other ding",
                     "meet 5 other ding walk ding", "meet 5 walk ding bells ding other ding",
                     "meet 5 walk ding ding walk")

    # Any word without blanks may stand there, also one that is no word of [4].
    def test_names_that_can_be_none(self):
        for name in ("Walk", "walks", "walk1", "a" * 99, "1", "-", "wa-lk", "\u00e4", "length", "walk\t", "walk\n"):
            self.refused(NoName, f"length {name}", f"stand {name} 2", f"sum {name} arm 2", f"meet 5 {name} ding",
                         f"meet 5 walk ding {name} ding")
        desk = Desk()
        for row in ROWS:
            self.assertRaises(NoName, desk.say, row)

    # The limb can't be looked for, nor the beat.
    def test_no_name_ahead_of_no_limb_and_no_beat(self):
        self.refused(NoName, "sum other nose 2", "at other nose 3 4", "first other nose 3 0", "stand other 99",
                     "sum other arm 99", "first other arm 3 99", "rung other ding 99")

    def test_no_limb(self):
        self.refused(NoLimb, "sum walk nose 2", "at walk nose 3 4", "first walk nose 3 0", "sum walk walk 2",
                     "sum walk Arm 2", "sum walk arms 2", "sum walk 1 2", "sum walk up 2", "at walk ar 3 4",
                     "first walk " + "a" * 99 + " 3 0", "sum walk arm\t 2", "sum walk arm\n 2")

    def test_no_limb_ahead_of_no_beat(self):
        self.refused(NoLimb, "sum walk nose 99", "at walk nose 3 99", "first walk nose 3 99")

    def test_no_beat(self):
        self.refused(NoBeat, "stand walk 5", "rings walk 5", "sum walk arm 6", "at walk arm 3 6", "rung walk ding 6",
                     "first walk leg 3 5")
        desk = full_desk()
        for row in ("stand walk 4", "rings walk 4", "sum walk arm 5", "at walk arm 3 5", "rung walk ding 5",
                    "first walk leg 3 4"):
            desk.say(row)

    def test_broad(self):
        desk = full_desk()
        desk.put("broad", LIMBS + "part a ring ding 1\npart b again 13 a")
        for row in ("meet 0 broad ding", "meet 0 walk ding broad ding", "meet 9 broad ding walk cuckoo",
                    "meet 0 walk cuckoo walk ding broad ding"):
            self.assertRaises(Broad, desk.say, row)
        self.assertRaises(NoName, desk.say, "meet 0 broad ding other ding")
        self.assertRaises(NoRow, desk.say, "meet 00 broad ding")
        self.assertEqual(desk.say("meet 0 broad dong"), "never")


class Putting(unittest.TestCase):
    def test_gives_back_nothing(self):
        self.assertIsNone(Desk().put("walk", WALK))

    # A name is a word as [4] tells; any word, one that begins rows, too.
    def test_names(self):
        desk = Desk()
        for name in ("a", "abcdefgh", "zzzzzzzz", "length", "meet", "limbs", "never"):
            desk.put(name, WALK)
            self.assertEqual(desk.say(f"length {name}"), "4")
        self.assertEqual(desk.say("meet 1 meet ding length ding never ding"), "4")
        for name in ("", "A", "Walk", "abcdefghi", "a1", "1", "a b", " a", "a ", "a\n", "-", "\u00e4", "\u03b1"):
            self.assertRaises(NoName, desk.put, name, WALK)

    def test_no_name_ahead_of_all_else(self):
        for text in ("", "limbs", LIMBS.strip(), LIMBS + "part a hold 1\npart b hold 1\npart c side a b", WALK):
            self.assertRaises(NoName, Desk().put, "A", text)

    def field(self, error, text):
        with self.assertRaises(error) as caught:
            Desk().put("a", text)
        return caught.exception

    def test_no_book(self):
        for text, row in (("", 0), ("limbs", 0), ("limbs arm 0", 1), (WALK + "\n", 7), (LIMBS + "part a hold 0", 1)):
            self.assertEqual(self.field(NoBook, text).row, row)

    # NoBook goes ahead, wherever in the text it is.
    def test_no_book_ahead_of_books_that_are_not_sound(self):
        idle = "part a hold 1\npart b raise arm 1 1\npart c side a b\n"
        self.assertEqual(self.field(NoBook, LIMBS + idle + "part d").row, 4)
        self.assertEqual(self.field(NoBook, LIMBS + "part b raise arm 1 1\npart c side b b\npart c hold 1").row, 3)
        self.assertEqual(self.field(NoBook, LIMBS + chain(f"hold {GREAT}", f"again {GREAT} AHEAD", 9) + "\n").row, 10)

    def test_books_that_are_not_sound(self):
        start = LIMBS + "part a hold 1\npart b raise arm 1 1\n"
        self.assertEqual(self.field(Idle, start + "part c side b a").row, 2)
        self.assertEqual(self.field(Idle, start + "part c side b a\npart d side b b").row, 2)
        error = self.field(TwoHands, start + "part d side b b\npart c side b a")
        self.assertEqual((error.row, error.limb), (2, "arm"))
        self.assertEqual(self.field(TooLong, LIMBS + chain(f"hold {GREAT}", f"again {GREAT} AHEAD", 9)).row, 3)

    def test_an_older_book_is_forgotten(self):
        desk = desk_with(walk=WALK, bells=BELLS)
        desk.put("walk", "limbs nose 8\npart a raise nose 2 3")
        self.assertEqual(desk.say("length walk"), "3")
        self.assertEqual(desk.say("stand walk 0"), "8")
        self.assertEqual(desk.say("sum walk nose 1"), "8")
        self.assertRaises(NoLimb, desk.say, "sum walk arm 1")
        self.assertEqual(desk.say("rung walk ding 3"), "0")
        self.assertEqual(desk.say("length bells"), "14")
        desk.put("walk", WALK)
        self.assertEqual([desk.say(row) for row in ROWS[:12]], [full_desk().say(row) for row in ROWS[:12]])

    # The older book stays where the new one is refused, and no new name comes to be.
    def test_what_is_refused_changes_nothing(self):
        desk = full_desk()
        before = [desk.say(row) for row in ROWS]
        start = LIMBS + "part a hold 1\npart b raise arm 1 1\n"
        for error, text in ((NoBook, ""), (NoBook, WALK + "\n"), (NoBook, LIMBS.strip()),
                            (Idle, start + "part c side b a"), (TwoHands, start + "part c side b b"),
                            (TooLong, LIMBS + chain(f"hold {GREAT}", f"again {GREAT} AHEAD", 9))):
            self.assertRaises(error, desk.put, "walk", text)
            self.assertRaises(error, desk.put, "other", text)
            self.assertRaises(NoName, desk.put, "Walk", text)
            self.assertEqual([desk.say(row) for row in ROWS], before)
            self.assertRaises(NoName, desk.say, "length other")
        for row in ("stand walk 5", "lengths walk", "length other", "sum walk nose 1", "meet 0 other ding"):
            self.assertRaises((NoBeat, NoRow, NoName, NoLimb), desk.say, row)
            self.assertEqual([desk.say(row) for row in ROWS], before)

    def test_what_is_said_changes_nothing(self):
        desk = full_desk()
        before = [desk.say(row) for row in ROWS]
        self.assertEqual([desk.say(row) for row in ROWS[::-1]], before[::-1])
        self.assertEqual([desk.say(row) for row in ROWS], before)

    def test_two_desks(self):
        one, other = Desk(), Desk()
        one.put("walk", WALK)
        self.assertRaises(NoName, other.say, "length walk")
        other.put("walk", BELLS)
        other.put("more", HOP.strip())
        self.assertEqual((one.say("length walk"), other.say("length walk")), ("4", "14"))
        self.assertRaises(NoName, one.say, "length more")
        self.assertRaises(NoName, one.say, "meet 0 walk ding more ding")
        self.assertRaises(NoName, Desk().say, "length walk")


if __name__ == "__main__":
    unittest.main()
