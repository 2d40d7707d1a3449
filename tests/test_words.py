import unittest

from camplay.words import is_word, number_of


class Words(unittest.TestCase):
    def test_one_to_eight_small_letters(self):
        for text in ("a", "z", "m", "arm", "part", "abcdefgh", "zzzzzzzz"):
            self.assertIs(is_word(text), True, text)

    def test_every_small_letter(self):
        for letter in "abcdefghijklmnopqrstuvwxyz":
            self.assertIs(is_word(letter), True, letter)

    def test_none_and_nine_letters(self):
        for text in ("", "abcdefghi", "a" * 9, "a" * 1000):
            self.assertIs(is_word(text), False, text)

    def test_every_other_plain_sign(self):
        for code in range(128):
            sign = chr(code)
            for text in (sign, "a" + sign, sign + "a", "a" + sign + "b"):
                self.assertIs(is_word(text), "a" <= sign <= "z", repr(text))

    def test_capitals_figures_blanks_and_line_ends(self):
        for text in ("A", "Arm", "arM", "a1", "7", " arm", "arm ", "a b", " ", "arm\n", "\narm", "\n", "a\tb", "arm\r",
                     "arm\t", "a-b", "a_b", "a.b"):
            self.assertIs(is_word(text), False, repr(text))

    def test_letters_of_other_scripts(self):
        for text in ("\u00e4", "\u00df", "\u0430", "\uff41", "\u0131", "a\u0301", "\u00e9t\u00e9", "\u017f"):
            self.assertIs(is_word(text), False, repr(text))


class Numbers(unittest.TestCase):
    def test_plain_numbers(self):
        for text, number in (("0", 0), ("7", 7), ("10", 10), ("100", 100), ("9876543210", 9876543210)):
            self.assertEqual(number_of(text), number)

    def test_no_0_ahead_but_in_0_itself(self):
        for text in ("007", "00", "01", "0" * 80):
            self.assertIsNone(number_of(text), text)

    def test_no_figures_at_all(self):
        self.assertIsNone(number_of(""))
        self.assertIsNone(number_of("", 0))

    def test_every_other_plain_sign(self):
        for code in range(128):
            sign = chr(code)
            if not "0" <= sign <= "9":
                for text in (sign, "7" + sign, sign + "7", "7" + sign + "7"):
                    self.assertIsNone(number_of(text), repr(text))

    def test_signs_blanks_line_ends_and_underscores(self):
        for text in ("+7", "-7", "-0", "+0", " 7", "7 ", "7\n", "\n7", "\t7", "7\t", "1_0", "_1", "1.0", "1e3", "0x1",
                     "seven"):
            self.assertIsNone(number_of(text), repr(text))

    def test_figures_of_other_scripts(self):
        for text in ("\u0667", "\u096d", "\uff17", "\u00b2", "\u2460", "1\u0667", "\u0bed", "\U0001d7d9"):
            self.assertIsNone(number_of(text), repr(text))

    def test_eighty_figures_where_nothing_else_is_told(self):
        self.assertEqual(number_of("9" * 80), 10 ** 80 - 1)
        self.assertEqual(number_of("1" + "0" * 79), 10 ** 79)
        self.assertIsNone(number_of("9" * 81))
        self.assertIsNone(number_of("1" + "0" * 80))

    def test_a_told_most(self):
        for most in (1, 2, 19, 81, 200):
            self.assertEqual(number_of("9" * most, most), 10 ** most - 1)
            self.assertIsNone(number_of("9" * (most + 1), most))
            if most > 1:
                self.assertEqual(number_of("9" * (most - 1), most), 10 ** (most - 1) - 1)
        self.assertEqual(number_of("0", 1), 0)
        self.assertEqual(number_of("123", most=3), 123)
        self.assertIsNone(number_of("1", 0))


if __name__ == "__main__":
    unittest.main()
