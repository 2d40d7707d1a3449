import unittest

from camplay import errors

PLAIN = ("Long", "NoBeat", "Done", "NoPins", "Broad", "NoRow", "NoName", "NoLimb")
WITH_ROW = ("NoBook", "Idle", "TooLong")
ALL = PLAIN + WITH_ROW + ("TwoHands",)


class Refusals(unittest.TestCase):
    def test_play_error_is_a_value_error(self):
        self.assertTrue(issubclass(errors.PlayError, ValueError))

    def test_twelve_classes_stand_under_play_error(self):
        self.assertEqual(len(ALL), 12)
        for name in ALL:
            self.assertTrue(issubclass(getattr(errors, name), errors.PlayError), name)

    def test_none_stands_under_another_one(self):
        for name in ALL:
            for other in ALL:
                if name != other:
                    self.assertFalse(issubclass(getattr(errors, name), getattr(errors, other)), (name, other))

    def test_those_with_a_row_are_made_by_it(self):
        for name in WITH_ROW:
            for row in (0, 7, 60):
                self.assertEqual(getattr(errors, name)(row).row, row)

    def test_row_and_limb_in_this_order_and_by_name(self):
        error = errors.TwoHands(3, "arm")
        self.assertEqual((error.row, error.limb), (3, "arm"))
        error = errors.TwoHands(limb="arm", row=3)
        self.assertEqual((error.row, error.limb), (3, "arm"))

    def test_those_without_fields_are_made_of_nothing(self):
        for name in PLAIN:
            error = getattr(errors, name)()
            self.assertFalse(hasattr(error, "row"))
            self.assertFalse(hasattr(error, "limb"))

    def test_only_two_hands_has_a_limb(self):
        for name in WITH_ROW:
            self.assertFalse(hasattr(getattr(errors, name)(1), "limb"))

    def test_raised_and_taken_as_any_refusal(self):
        for error in (errors.NoBook(2), errors.TwoHands(0, "leg"), errors.Done()):
            with self.assertRaises(errors.PlayError) as taken:
                raise error
            self.assertIs(taken.exception, error)


if __name__ == "__main__":
    unittest.main()
