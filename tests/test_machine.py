import copy
import unittest

from camplay.books import read
from camplay.drums import book_of, drums
from camplay.errors import Done, NoBeat, NoPins
from camplay.looks import lengths
from camplay.machine import Machine, resumed
from camplay.standing import rings, stand
from camplay.telling import told
from plays import (CHIMES, GREAT, HOP, LIMBS, SMALL, Drawn, Turns, chain, drawn_books, far_book, length_by,
                   many_heights, often, pins_by, play_by, side_by_side, soon, utmost_book)


def box_of(text):
    return drums(read(text.strip()))


def machine_at(box, beat):
    machine = Machine(box)
    machine.jump(beat)
    return machine


def shows(machine):
    return (machine.beat(), machine.heights(), machine.pins())


# Words rung, beat, heights and pins at each beat, from the first one to the last one.
def stepped(box, last):
    machine = Machine(box)
    found = [(None,) + shows(machine)]
    for beat in range(last):
        found.append((machine.step(),) + shows(machine))
    return found


def small_books():
    return [read(text) for text in SMALL] + drawn_books()


# Boxes of plays of up to 10 ** 60 beats.
def long_boxes():
    chains = [chain("raise arm 7 1", "row AHEAD AHEAD", 60), chain("ring ding 1", "row AHEAD AHEAD", 60),
              chain("hold 3", "row" + " AHEAD" * 8, 60), chain(f"raise leg 9 {GREAT}", "again 9 AHEAD", 40)]
    texts = [LIMBS + rows for rows in chains] + [many_heights(), side_by_side()]
    bases = [read(text) for text in SMALL[-6:]] + drawn_books()[:12]
    books = [read(text) for text in texts] + [often(base, (GREAT, GREAT)) for base in bases]
    return [drums(book) for book in books + [utmost_book(base) for base in bases] + [far_book(base) for base in bases]]


class PinsByHand(unittest.TestCase):
    def pins(self, rows, *beats):
        box = box_of(LIMBS + rows)
        return [machine_at(box, beat).pins() for beat in beats]

    def test_raise(self):
        self.assertEqual(self.pins("part a raise leg 0 3", 0, 1, 2, 3), [(0, 5), (1, 5), (2, 5), None])
        self.assertEqual(self.pins("part a raise arm 9 1", 0, 1), [(0, 0), None])

    # The height at which it began, not the one at which the limb stands.
    def test_a_raise_behind_a_raise(self):
        rows = "part a raise arm 8 2\npart b raise arm 3 3\npart c row a b a"
        self.assertEqual(self.pins(rows, 0, 1, 2, 3, 4, 5, 6, 7), [
            (0, (0, 0)), (0, (1, 0)), (1, (0, 8)), (1, (1, 8)), (1, (2, 8)), (2, (0, 3)), (2, (1, 3)), None])

    def test_hold_and_ring(self):
        self.assertEqual(self.pins("part a hold 2", 0, 1, 2), [(0,), (1,), None])
        self.assertEqual(self.pins("part a ring ding 3", 0, 1, 2, 3), [(0,), (1,), (2,), None])

    def test_row(self):
        self.assertEqual(self.pins("part a hold 2\npart b ring ding 1\npart c row a b b a", *range(7)), [
            (0, (0,)), (0, (1,)), (1, (0,)), (2, (0,)), (3, (0,)), (3, (1,)), None])
        self.assertEqual(self.pins("part a hold 2\npart b row a", 0, 1, 2), [(0, (0,)), (0, (1,)), None])

    # None for a part that is over, whichever one it is; the side goes on till the last one is over.
    def test_side(self):
        rows = "part a raise arm 8 2\npart b raise leg 3 4\npart c side "
        self.assertEqual(self.pins(rows + "a b", *range(5)), [
            ((0, 0), (0, 5)), ((1, 0), (1, 5)), (None, (2, 5)), (None, (3, 5)), None])
        self.assertEqual(self.pins(rows + "b a", *range(5)), [
            ((0, 5), (0, 0)), ((1, 5), (1, 0)), ((2, 5), None), ((3, 5), None), None])

    def test_a_side_of_four(self):
        box = box_of("limbs w 0 x 1 y 2 z 3\npart a raise w 9 2\npart b raise x 9 1\npart c raise y 9 3\n"
                     "part d raise z 9 1\npart e side a b c d")
        self.assertEqual([machine_at(box, beat).pins() for beat in range(4)], [
            ((0, 0), (0, 1), (0, 2), (0, 3)), ((1, 0), None, (1, 2), None), (None, None, (2, 2), None), None])

    def test_again(self):
        rows = "part a raise arm 8 2\npart b again 3 a"
        self.assertEqual(self.pins(rows, *range(7)), [
            (0, (0, 0)), (0, (1, 0)), (1, (0, 8)), (1, (1, 8)), (2, (0, 8)), (2, (1, 8)), None])
        self.assertEqual(self.pins("part a hold 2\npart b again 1 a", 0, 1, 2), [(0, (0,)), (0, (1,)), None])

    def test_forms_within_forms(self):
        rows = ("part a raise arm 8 2\npart b raise leg 3 1\npart c ring ding 1\npart d row b c c\npart e side a d\n"
                "part f again 2 e\npart g row c f")
        self.assertEqual(self.pins(rows, *range(8)), [
            (0, (0,)),
            (1, (0, ((0, 0), (0, (0, 5))))), (1, (0, ((1, 0), (1, (0,))))), (1, (0, (None, (2, (0,))))),
            (1, (1, ((0, 8), (0, (0, 3))))), (1, (1, ((1, 8), (1, (0,))))), (1, (1, (None, (2, (0,))))),
            None])

    # One part, named by two parts of a side, is played in both at once, and not equally far.
    def test_one_part_at_two_places(self):
        rows = ("part a raise arm 8 1\npart b raise leg 3 2\npart c hold 4\npart d row a c c\npart e row b c\n"
                "part f side d e")
        self.assertEqual(self.pins(rows, 2, 3, 5, 6, 9), [
            ((1, (1,)), (1, (0,))), ((1, (2,)), (1, (1,))), ((2, (0,)), (1, (3,))), ((2, (1,)), None), None])
        rows = rows.replace("leg 3 2", "leg 3 1")
        self.assertEqual(self.pins(rows, 2, 5, 6), [((1, (1,)), (1, (1,))), ((2, (0,)), None), ((2, (1,)), None)])

    # A limb that a part ahead moved in the same side stays where it was left.
    def test_starts_in_a_side_within_an_again(self):
        rows = ("part a raise arm 8 1\npart b raise arm 2 3\npart c row a b\npart d raise leg 1 2\npart e side d c\n"
                "part f again 2 e")
        self.assertEqual(self.pins(rows, 0, 1, 2, 4, 5), [
            (0, ((0, 5), (0, (0, 0)))), (0, ((1, 5), (1, (0, 8)))), (0, (None, (1, (1, 8)))),
            (1, ((0, 1), (0, (0, 2)))), (1, ((1, 1), (1, (0, 8))))])


class BeatByBeat(unittest.TestCase):
    # Stepped from the first beat to the last one, and set at each.
    def same(self, book):
        box = drums(book)
        play = play_by(book)
        pins = pins_by(box)
        last = len(play) - 1
        self.assertEqual(len(pins), last + 1)
        found = stepped(box, last)
        self.assertEqual([one[1] for one in found], list(range(last + 1)))
        self.assertEqual([one[2] for one in found], [heights for heights, words in play], book)
        self.assertEqual([one[3] for one in found], pins, book)
        self.assertEqual([one[0] for one in found[1:]], [words for heights, words in play[1:]], book)
        machine = Machine(box)
        for beat, one in enumerate(found):
            machine.jump(beat)
            self.assertEqual(shows(machine), one[1:], (book, beat))
            self.assertEqual(shows(machine_at(box, beat)), one[1:], (book, beat))

    def test_small_books(self):
        for text in SMALL:
            book = read(text)
            self.assertEqual(told(book), play_by(book))
            self.same(book)

    def test_made_books(self):
        for book in drawn_books():
            self.same(book)

    def test_a_hop_by_hand(self):
        machine = Machine(box_of(HOP))
        self.assertEqual(shows(machine), (0, [0, 5], (0, ((0, (0, 5)), (0, (0,))))))
        rung = [machine.step() for beat in range(12)]
        self.assertEqual(rung, [[], ["ding"], [], ["ding"], [], [], [], [], [], [], [], []])
        self.assertEqual(shows(machine), (12, [1, 5], None))

    # Words of a side's part named ahead go ahead, and one word may be rung twice at a beat.
    def test_words_of_one_beat(self):
        machine = Machine(box_of(CHIMES))
        rung = [machine.step() for beat in range(10)]
        self.assertEqual(rung, [[], ["dong"], ["ding", "ding"], ["dong"], ["ding", "ding"], [], ["dong"],
                                ["ding", "ding"], ["dong"], []])

    # What is rung at beat 0 no step tells, as none leads there.
    def test_nothing_is_rung_at_the_end(self):
        for rows in ("part a ring ding 1", "part a ring ding 1\npart b again 1 a"):
            self.assertEqual(Machine(box_of(LIMBS + rows)).step(), [])


class Setting(unittest.TestCase):
    def test_at_beats_in_any_order_and_stepped_on(self):
        for salt, book in enumerate(small_books()):
            box = drums(book)
            play = play_by(book)
            pins = pins_by(box)
            last = len(play) - 1
            drawn = Drawn(salt)
            machine = Machine(box)
            for place in range(12):
                beat = drawn.one((0, last, drawn.below(last + 1), drawn.below(last + 1)))
                self.assertIsNone(machine.jump(beat))
                for more in range(min(drawn.below(4), last - beat)):
                    beat += 1
                    self.assertEqual(machine.step(), play[beat][1])
                self.assertEqual(shows(machine), (beat, play[beat][0], pins[beat]))

    def test_done_at_the_end(self):
        for book in small_books():
            last = len(play_by(book)) - 1
            machine = machine_at(drums(book), last - 1)
            self.assertEqual(machine.step(), [])
            before = shows(machine)
            for time in range(2):
                self.assertRaises(Done, machine.step)
                self.assertEqual(shows(machine), before)
            machine.jump(0)
            self.assertEqual(shows(machine), shows(Machine(drums(book))))

    def test_no_beat(self):
        for book in small_books()[::4] + [utmost_book(read(HOP.strip()))]:
            last = lengths(book)[-1]
            for begin in (0, last // 2, last):
                machine = machine_at(drums(book), begin)
                before = machine.kept()
                for beat in (-1, last + 1, -last, -last - 1, 2 * last + 1, 10 ** 61, -10 ** 61):
                    self.assertRaises(NoBeat, machine.jump, beat)
                    self.assertEqual(machine.kept(), before)
                self.assertEqual(machine.beat(), begin)

    def test_kinds(self):
        machine = Machine(box_of(HOP))
        self.assertIs(type(machine), Machine)
        for beat in (0, 5, 12):
            machine.jump(beat)
            self.assertEqual([type(one) for one in shows(machine)], [int, list, tuple if beat < 12 else type(None)])
            kept = machine.kept()
            self.assertIs(type(kept), tuple)
            self.assertEqual([type(one) for one in kept], [int, tuple, tuple if beat < 12 else type(None)])
        machine.jump(0)
        self.assertIs(type(machine.step()), list)


class LongPlays(unittest.TestCase):
    def beats(self, last):
        found = [0, 1, 2, last // 2, last // 3, last // 7 * 5, last - last // 11 - 1, last - 2, last - 1, last]
        return [beat for beat in found if beat >= 0]

    def set_and_step(self, box, beat, last):
        machine = machine_at(box, beat)
        found = [shows(machine)]
        if beat < last:
            found.append(machine.step())
            found.append(shows(machine))
        return found

    # Stepped there, a machine stands as one that is set there, and as the book tells.
    def test_set_and_stepped(self):
        for box in long_boxes():
            book = book_of(box)
            last = lengths(book)[-1]
            for beat in self.beats(last):
                found = soon(self.set_and_step, box, beat, last)
                self.assertEqual(found[0][:2], (beat, stand(book, beat)))
                self.assertEqual(found[0][2] is None, beat == last)
                if beat < last:
                    self.assertEqual(found[1], rings(book, beat + 1))
                    self.assertEqual(found[2], soon(self.set_and_step, box, beat + 1, last)[0])

    # The part ahead, twice: the places are the figures of the beat, by twos.
    def test_rows_that_name_the_part_ahead_twice(self):
        box = box_of("limbs arm 3\n" + chain("raise arm 7 1", "row AHEAD AHEAD", 60))
        last = 1 << 59
        for beat in self.beats(last)[:-1] + [int("10" * 29, 2), int("01" * 29, 2)]:
            pins = (0, 3 if beat == 0 else 7)
            for figure in bin(beat)[2:].zfill(59)[::-1]:
                pins = (int(figure), pins)
            self.assertEqual(soon(self.set_and_step, box, beat, last)[0][2], pins)
        self.assertIsNone(machine_at(box, last).pins())

    # Two limbs, each in a row of its own that names the part ahead twice.
    def test_sides_of_such_rows(self):
        box = box_of("limbs k 3 l 4\n" + chain("raise k 7 2", "row AHEAD AHEAD", 29) + "\n"
                     + chain("raise l 9 3", "row AHEAD AHEAD", 29, begin=50) + "\npart p side ci hi")
        for beat in (0, 1, 2, 3, (2 << 28) - 1, 2 << 28, (3 << 28) - 1):
            found = []
            for size, first, left in ((2, 3, 7), (3, 4, 9)):
                pins = (beat % size, first if beat < size else left)
                for figure in bin(beat // size)[2:].zfill(28)[::-1]:
                    pins = (int(figure), pins)
                found.append(pins if beat < size << 28 else None)
            self.assertEqual(soon(self.set_and_step, box, beat, 3 << 28)[0][2], tuple(found))

    # The turns of agains within agains are told by the beat, and the pins within by the first two turns.
    def test_agains_within_agains(self):
        for base in [read(text) for text in SMALL] + drawn_books()[:40]:
            size = length_by(base, base[1][-1][0])
            near = pins_by(drums(often(base, (2,))))
            for times in ((GREAT, GREAT), (7, GREAT, 3, 10 ** 9), (GREAT, GREAT, GREAT, 10 ** 6 // size)):
                book = often(base, times)
                box = drums(book)
                for beat in Turns(base, book).beats()[:-1]:
                    pins = near[beat if beat < size else size + beat % size][1]
                    turn = beat // size
                    for many in times:
                        pins = (turn % many, pins)
                        turn = turn // many
                    self.assertEqual(soon(machine_at(box, beat).pins), pins, (book, beat))


class Keeping(unittest.TestCase):
    def test_kept_and_resumed_at_each_beat(self):
        for book in small_books()[::3]:
            box = drums(book)
            play = play_by(book)
            last = len(play) - 1
            machine = Machine(box)
            for beat in range(last + 1):
                kept = machine.kept()
                self.assertEqual(kept, (beat, tuple(machine.heights()), machine.pins()))
                again = resumed(box, kept)
                self.assertIs(type(again), Machine)
                self.assertEqual(again.kept(), kept)
                if beat < last:
                    self.assertEqual(again.step(), play[beat + 1][1])
                    self.assertEqual(machine.kept(), kept)
                    machine.step()
                    self.assertEqual(again.kept(), machine.kept())
                else:
                    self.assertRaises(Done, again.step)

    def test_kept_far_away(self):
        for box in long_boxes():
            last = lengths(book_of(box))[-1]
            for beat in (0, last // 3, last - 1, last):
                kept = soon(machine_at(box, beat).kept)
                self.assertEqual(soon(resumed, box, kept).kept(), kept)

    def refused(self, box, kept):
        with self.assertRaises(NoPins, msg=kept):
            resumed(box, kept)

    # All but one of the three as they were kept.
    def test_another_beat_other_heights_other_pins(self):
        for book in small_books()[::5]:
            box = drums(book)
            last = lengths(book)[-1]
            kepts = [machine_at(box, beat).kept() for beat in range(last + 1)]
            for beat, (now, heights, pins) in enumerate(kepts):
                for other in {0, beat - 1, beat + 1, last} - {beat}:
                    self.refused(box, (other, heights, pins))
                for limb in range(len(heights)):
                    for change in (-1, 1):
                        more = heights[:limb] + (heights[limb] + change,) + heights[limb + 1:]
                        self.refused(box, (beat, more, pins))
                self.refused(box, (beat, heights[:-1], pins))
                self.refused(box, (beat, heights + (0,), pins))
                for other in (None, (), (0,), (pins,), kepts[beat - 1][2]):
                    if other != pins:
                        self.refused(box, (beat, heights, other))

    def test_beats_that_there_are_not(self):
        for box in [box_of(HOP)] + long_boxes()[:8]:
            last = lengths(book_of(box))[-1]
            for begin in (0, last):
                kept = machine_at(box, begin).kept()
                for beat in (-1, last + 1, -last - 1, 10 ** 61, -10 ** 61):
                    self.refused(box, (beat,) + kept[1:])
                    self.refused(box, (beat, kept[1], None))

    def test_pins_that_differ_deep_within(self):
        rows = ("part a raise arm 8 2\npart b raise leg 3 1\npart c ring ding 1\npart d row b c c\npart e side a d\n"
                "part f again 2 e\npart g row c f")
        box = box_of(LIMBS + rows)
        kept = (4, (8, 3), (1, (1, ((0, 8), (0, (0, 3))))))
        self.assertEqual(resumed(box, kept).kept(), kept)
        for pins in ((0, (1, ((0, 8), (0, (0, 3))))), (1, (0, ((0, 8), (0, (0, 3))))), (1, (1, ((1, 8), (0, (0, 3))))),
                     (1, (1, ((0, 0), (0, (0, 3))))), (1, (1, (None, (0, (0, 3))))), (1, (1, ((0, 8), (1, (0, 3))))),
                     (1, (1, ((0, 8), (0, (0, 5))))), (1, (1, ((0, 8), None))), (1, (1, ((0, 8),))), (1, (1, None))):
            self.refused(box, (4, (8, 3), pins))

    # Kept by a machine of another box: where it is equal to what one of this box keeps, it is taken.
    def test_another_box(self):
        rows = "part a raise arm 8 2\npart b raise leg 3 1\n"
        one = box_of(LIMBS + rows + "part c row a b a")
        other = box_of(LIMBS + rows + "part c row a a b")
        self.assertEqual(resumed(other, machine_at(one, 1).kept()).beat(), 1)
        self.refused(other, machine_at(one, 2).kept())
        self.assertEqual(resumed(other, machine_at(one, 5).kept()).kept(), (5, (8, 3), None))
        self.refused(box_of(LIMBS + rows + "part c row a b"), machine_at(one, 5).kept())
        self.refused(box_of(LIMBS + rows + "part c row b a b a"), machine_at(one, 5).kept())


class Owning(unittest.TestCase):
    def test_what_is_handed_in_stays(self):
        for book in drawn_books()[:30]:
            box = drums(book)
            before = copy.deepcopy(box)
            last = lengths(book)[-1]
            machine = Machine(box)
            for beat in (0, last // 2, last - 1):
                machine.jump(beat)
                machine.step()
                kept = machine.kept()
                as_kept = copy.deepcopy(kept)
                resumed(box, kept).jump(0)
                self.assertEqual(kept, as_kept)
            self.assertEqual(box, before)

    def test_lists_that_were_told_are_the_askers_own(self):
        for book in drawn_books()[:30] + [read(CHIMES)]:
            box = drums(book)
            machine = Machine(box)
            for beat, (heights, words) in enumerate(play_by(book)):
                rung = machine.step() if beat else []
                before = machine.kept()
                rung.append("more")
                told_now = machine.heights()
                told_now[0] += 1
                told_now.append(9)
                self.assertEqual(machine.heights(), heights)
                self.assertEqual(machine.kept(), before)
                machine.jump(beat)
                self.assertEqual(machine.kept(), before)
            machine.jump(0)
            found = machine.heights()
            as_told = list(found)
            machine.jump(len(play_by(book)) - 1)
            self.assertEqual(found, as_told)
        machine = machine_at(box_of(CHIMES), 0)
        rung = [machine.step() for beat in range(3)]
        rung[2].clear()
        machine.jump(2)
        self.assertEqual(machine.step(), ["ding", "ding"])

    # Limbs and drums changed, put ahead, taken out; forms of the same box are tuples and can't be changed.
    def test_the_box_changed_later(self):
        for book in drawn_books()[:30]:
            box = drums(book)
            last = lengths(book)[-1]
            kepts = [machine_at(box, beat).kept() for beat in range(last + 1)]
            machine = Machine(box)
            again = resumed(box, kepts[last // 2])
            box[0][0] = ("other", 10 ** 9)
            box[0].append(("more", 7))
            box[1].insert(0, ("hold", 5))
            box[1][-1] = ("hold", 9)
            self.assertEqual(again.kept(), kepts[last // 2])
            for beat in range(last + 1):
                self.assertEqual(machine.kept(), kepts[beat])
                if beat < last:
                    machine.step()
            box[0].clear()
            box[1].clear()
            self.assertRaises(Done, machine.step)
            machine.jump(1)
            again.jump(1)
            self.assertEqual((machine.kept(), again.kept()), (kepts[1], kepts[1]))

    def test_two_machines_of_one_box(self):
        for book in drawn_books()[:30]:
            box = drums(book)
            last = lengths(book)[-1]
            one = Machine(box)
            other = Machine(box)
            begin = other.kept()
            for beat in range(last):
                one.step()
                self.assertEqual(other.kept(), begin)
            end = one.kept()
            other.jump(last // 2)
            self.assertEqual(one.kept(), end)
            third = resumed(box, end)
            third.jump(0)
            self.assertEqual((one.kept(), third.kept()), (end, begin))


if __name__ == "__main__":
    unittest.main()
