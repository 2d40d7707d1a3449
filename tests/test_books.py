import unittest

from camplay.books import read, shown
from camplay.errors import NoBook
from plays import drawn_books, named

SIX = """limbs arm 0 leg 5
part up raise arm 10 3
part wait hold 4
part bell ring ding 2
part go row up wait bell up
part step raise leg 7 1
part both side go step
part play again 9 both"""
SIX_BOOK = ([("arm", 0), ("leg", 5)],
            [("up", ("raise", "arm", 10, 3)),
             ("wait", ("hold", 4)),
             ("bell", ("ring", "ding", 2)),
             ("go", ("row", ("up", "wait", "bell", "up"))),
             ("step", ("raise", "leg", 7, 1)),
             ("both", ("side", ("go", "step"))),
             ("play", ("again", 9, "both"))])
GREAT = 10 ** 18
# Two parts that further rows can name, the limbs being arm and leg.
AHEAD = "limbs arm 0 leg 5\npart up raise arm 1 1\npart wait hold 1\n"


def text_of(count):
    return "limbs arm 0\n" + "\n".join(f"part {named(number)} hold 1" for number in range(count))


class Reading(unittest.TestCase):
    def test_each_of_the_six_forms(self):
        self.assertEqual(read(SIX), SIX_BOOK)

    def test_kinds_of_what_is_read(self):
        book = read(SIX)
        self.assertIs(type(book), tuple)
        self.assertEqual([type(one) for one in book], [list, list])
        for pair in book[0] + book[1]:
            self.assertIs(type(pair), tuple)
        for name, form in book[1]:
            self.assertIs(type(form), tuple)
            if form[0] in ("row", "side"):
                self.assertIs(type(form[1]), tuple)

    def test_each_form_shown_and_read_again(self):
        self.assertEqual(shown(SIX_BOOK), SIX)
        self.assertEqual(read(shown(SIX_BOOK)), SIX_BOOK)

    def test_made_books_shown_and_read_again(self):
        for book in drawn_books():
            text = shown(book)
            self.assertEqual(read(text), book)
            self.assertEqual(shown(read(text)), text)

    def test_a_part_called_as_a_limb_is(self):
        text = "limbs arm 0 leg 1\npart arm raise arm 3 4\npart leg row arm arm\npart x again 2 leg"
        self.assertEqual(read(text), ([("arm", 0), ("leg", 1)],
                                      [("arm", ("raise", "arm", 3, 4)), ("leg", ("row", ("arm", "arm"))),
                                       ("x", ("again", 2, "leg"))]))
        self.assertEqual(shown(read(text)), text)

    def test_words_that_begin_rows_as_names(self):
        text = ("limbs limbs 1 part 2 raise 3 row 4\npart part hold 1\npart limbs ring ring 2\n"
                "part raise raise raise 0 1\npart hold raise part 4 5\npart row row part limbs\n"
                "part side side raise hold\npart again again 2 side")
        book = read(text)
        self.assertEqual(book[0], [("limbs", 1), ("part", 2), ("raise", 3), ("row", 4)])
        self.assertEqual(book[1], [("part", ("hold", 1)), ("limbs", ("ring", "ring", 2)),
                                   ("raise", ("raise", "raise", 0, 1)), ("hold", ("raise", "part", 4, 5)),
                                   ("row", ("row", ("part", "limbs"))), ("side", ("side", ("raise", "hold"))),
                                   ("again", ("again", 2, "side"))])
        self.assertEqual(shown(book), text)

    def test_the_bounds_themselves(self):
        text = (f"limbs arm {GREAT} leg 0\npart a raise arm {GREAT} {GREAT}\npart b raise leg 0 1\n"
                f"part c hold {GREAT}\npart d ring ding {GREAT}\npart abcdefgh again {GREAT} a\n"
                "part f hold 1\npart g ring abcdefgh 1\npart h again 1 a")
        book = read(text)
        self.assertEqual(book[0], [("arm", GREAT), ("leg", 0)])
        self.assertEqual([form for name, form in book[1]],
                         [("raise", "arm", GREAT, GREAT), ("raise", "leg", 0, 1), ("hold", GREAT),
                          ("ring", "ding", GREAT), ("again", GREAT, "a"), ("hold", 1), ("ring", "abcdefgh", 1),
                          ("again", 1, "a")])
        self.assertEqual(shown(book), text)

    def test_as_many_names_as_can_be(self):
        for row, names in (("row", 1), ("row", 8), ("side", 2), ("side", 4)):
            text = AHEAD + f"part x {row}" + " up" * names
            self.assertEqual(read(text)[1][-1], ("x", (row, ("up",) * names)))
            self.assertEqual(shown(read(text)), text)

    def test_eight_limbs_and_sixty_parts(self):
        limbs = "limbs a 1 b 2 c 3 d 4 e 5 f 6 g 7 h 8"
        self.assertEqual(read(limbs + "\npart a hold 1")[0], [(name, k + 1) for k, name in enumerate("abcdefgh")])
        book = read(text_of(60))
        self.assertEqual(len(book[1]), 60)
        self.assertEqual(shown(book), text_of(60))
        self.assertEqual(len(read(text_of(1))[1]), 1)

    # Reading asks nothing of [9].
    def test_books_that_are_not_sound_are_read(self):
        for row in ("side wait wait", "side up up", f"again {GREAT} x"):
            text = AHEAD + f"part x again {GREAT} wait\npart y again {GREAT} x\npart z again {GREAT} y\npart w {row}"
            self.assertEqual(shown(read(text)), text)


class Refusing(unittest.TestCase):
    def refused(self, text, row):
        with self.assertRaises(NoBook, msg=repr(text)) as taken:
            read(text)
        self.assertEqual(taken.exception.row, row, repr(text))

    # The row told is the first one that can't stand, whatever stands behind it.
    def refused_limbs(self, row):
        self.refused(row, 0)
        self.refused(row + "\npart a hold 1", 0)
        self.refused(row + "\nnonsense\n", 0)

    def refused_part(self, row):
        self.refused(AHEAD + row, 3)
        self.refused(AHEAD + row + "\npart z hold 1", 3)
        self.refused(AHEAD + "part y hold 2\n" + row + "\npart part part", 4)

    def test_rows_of_limbs_with_too_few_or_too_many_words(self):
        for row in ("", "limbs", "limbs arm", "limbs arm 1 leg", "limbs arm leg", "limbs 1", "limbs arm 1 2",
                    "arm 1", "limbs arm 1 leg 2 3"):
            self.refused_limbs(row)

    def test_other_first_rows(self):
        for row in ("limb arm 1", "Limbs arm 1", "part arm 1", "part a hold 1", "limbs\tarm 1", "limbs 1 arm"):
            self.refused_limbs(row)

    def test_blanks_too_many_in_the_limbs(self):
        for row in (" limbs arm 1", "limbs  arm 1", "limbs arm  1", "limbs arm 1 ", "limbs arm 1  leg 2", " ", "limbs ",
                    "limbs arm 1\r", "limbs arm 1\t", "limbs arm\u00a01", "\ufefflimbs arm 1"):
            self.refused_limbs(row)

    def test_limbs_that_are_no_words_or_alike(self):
        for row in ("limbs Arm 1", "limbs abcdefghi 1", "limbs a1 1", "limbs a-b 1", "limbs \u00e4 1",
                    "limbs arm 1 arm 2", "limbs arm 1 leg 2 arm 1", "limbs 7 7"):
            self.refused_limbs(row)

    def test_heights_of_limbs_that_are_none(self):
        for height in ("01", "00", "-1", "+1", "1.0", "x", str(GREAT + 1), "1" + "0" * 19, "9" * 19, "9" * 5000, "1_0",
                       "\u0661"):
            self.refused_limbs(f"limbs arm {height}")
            self.refused_limbs(f"limbs leg 1 arm {height}")

    def test_nine_limbs(self):
        self.refused_limbs("limbs a 1 b 2 c 3 d 4 e 5 f 6 g 7 h 8 i 9")

    def test_no_parts(self):
        self.refused("limbs arm 0", 1)
        self.refused("limbs arm 0\n", 1)
        self.refused("limbs arm 0\n\n", 1)
        self.refused("limbs arm 0\n\npart a hold 1", 1)
        self.refused("", 0)
        self.refused("\n", 0)
        self.refused("\nlimbs arm 0\npart a hold 1", 0)

    def test_a_line_end_behind_the_last_row(self):
        self.refused(SIX + "\n", 8)
        self.refused(SIX + "\n\n", 8)
        self.refused("limbs arm 0\npart a hold 1\n", 2)
        self.refused("limbs arm 0\npart a hold 1\n\npart b hold 1", 2)
        self.refused(text_of(60) + "\n", 61)

    def test_other_line_ends(self):
        self.refused("limbs arm 0\r\npart a hold 1", 0)
        self.refused("limbs arm 0\npart a hold 1\r\npart b hold 1", 1)
        self.refused("limbs arm 0\npart a hold 1\r", 1)
        for sign in ("\r", "\x0b", "\x0c", "\x1c", "\x85", "\u2028"):
            self.refused("limbs arm 0" + sign + "part a hold 1", 0)
            self.refused("limbs arm 0\npart a hold 1" + sign + "part b hold 1", 1)

    def test_sixty_one_parts(self):
        self.refused(text_of(61), 61)
        self.refused(text_of(75), 61)
        self.refused(text_of(61).replace("part ej hold 1", "part ej hold 0"), 50)

    def test_rows_of_parts_with_too_few_or_too_many_words(self):
        for row in ("", "part", "part x", "part x hold", "part x raise", "part x raise arm", "part x raise arm 1",
                    "part x raise arm 1 1 1", "part x hold 1 1", "part x ring", "part x ring ding", "part x ring 1",
                    "part x ring ding 1 1", "part x row", "part x side", "part x side up", "part x again",
                    "part x again 2", "part x again up", "part x again 2 up up", "part x again up 2",
                    "part x raise 1 arm 1", "part x raise arm 1 leg 1", "x hold 1", "part hold 1", "part x 1"):
            self.refused_part(row)

    def test_too_many_names(self):
        self.refused_part("part x row" + " up" * 9)
        self.refused_part("part x side" + " up" * 5)
        self.refused_part("part x row" + " up" * 60)

    def test_forms_that_are_none(self):
        for row in ("part x lower arm 1 1", "part x Hold 1", "part x rows up", "part x both up wait", "part x up",
                    "parts x hold 1", "Part x hold 1", "limbs x hold 1", "limbs arm 1", "part x part 1",
                    "part x limbs 1", "hold x part 1"):
            self.refused_part(row)

    def test_blanks_too_many_in_parts(self):
        for row in (" part x hold 1", "part  x hold 1", "part x  hold 1", "part x hold  1", "part x hold 1 ", " ",
                    "part x row up  wait", "part x row up ", "part x row ", "part x side up wait ",
                    "part x again 2  up", "part x ring ding 1 ", "part x ring  1", "part x raise  1 1",
                    "part x\thold 1", "part x hold\t1", "part x hold 1\t", "part  hold 1", "part x  1"):
            self.refused_part(row)

    def test_numbers_that_are_none_or_out_of_their_bounds(self):
        for number in ("01", "00", "-1", "+1", "1.5", "x", "", str(GREAT + 1), "1" + "0" * 19, "9" * 19, "9" * 5000,
                       "1_0", "\u0661", "1e3"):
            for row in (f"raise arm {number} 1", f"raise arm 1 {number}", f"hold {number}", f"ring ding {number}",
                        f"again {number} up"):
                self.refused_part("part x " + row)
        for row in ("raise arm 1 0", "hold 0", "ring ding 0", "again 0 up"):
            self.refused_part("part x " + row)
        self.assertEqual(read(AHEAD + "part x raise arm 0 1")[1][-1], ("x", ("raise", "arm", 0, 1)))

    def test_names_and_words_that_are_none(self):
        for word in ("X", "x1", "abcdefghi", "7", "a-b", "\u00e4", ""):
            self.refused_part(f"part {word} hold 1")
            self.refused_part(f"part x ring {word} 1")

    def test_a_name_told_twice(self):
        for row in ("part up hold 1", "part wait raise leg 1 1", "part up row up", "part up raise arm 1 1"):
            self.refused_part(row)
        self.refused("limbs arm 0\npart a hold 1\npart b hold 1\npart a hold 1\npart b hold 1", 3)

    def test_names_that_no_part_ahead_has(self):
        for names in ("x", "z", "arm", "leg", "up z", "up x", "z up", "up up up up up up up z", "row", "part", "1",
                      "Up"):
            self.refused_part("part x row " + names)
        for names in ("up x", "up z", "up arm", "z z", "up up wait z", "arm leg"):
            self.refused_part("part x side " + names)
        for name in ("x", "z", "arm", "1"):
            self.refused_part("part x again 2 " + name)
        # a row behind tells the name, but that is too late
        self.refused("limbs arm 0\npart a row b\npart b hold 1", 1)

    def test_a_limb_that_is_none(self):
        for limb in ("head", "up", "wait", "x", "Arm", "raise", "1", "ar"):
            self.refused_part(f"part x raise {limb} 1 1")

    def test_the_first_row_that_can_not_stand_is_told(self):
        self.refused("limbs arm 0\npart a hold 1\npart b hold 0\npart a hold 1\nx", 2)
        self.refused("limbs arm x\npart a hold 0", 0)
        self.refused("limbs arm 0\npart a hold 1\npart b hold 1\npart c row a d", 3)


class Owning(unittest.TestCase):
    def test_what_is_read_is_new_each_time(self):
        book = read(SIX)
        book[0].append(("head", 3))
        book[1].clear()
        self.assertEqual(read(SIX), SIX_BOOK)

    def test_showing_changes_nothing(self):
        book = read(SIX)
        shown(book)
        self.assertEqual(book, SIX_BOOK)


if __name__ == "__main__":
    unittest.main()
