"""What the document promises over the whole program: all modules held against one play, and against one another."""

import copy
import unittest

from camplay.books import read, shown
from camplay.counting import height_count, height_sum, ring_count
from camplay.desk import Desk
from camplay.drums import book_of, drums
from camplay.ever import rings_ever, stand_ever
from camplay.finding import first_at, ring_beat
from camplay.jumps import first_jump
from camplay.looks import ends, lengths, moved
from camplay.machine import Machine, resumed
from camplay.meeting import meeting
from camplay.standing import rings, stand
from camplay.telling import told
from plays import (GREAT, HOP, LIMBS, SMALL, chain, drawn_books, far_book, many_heights, often, pins_by, play_by,
                   side_by_side, soon, utmost_book)

WORDS = ("ding", "dong", "cuckoo", "nobody")


def small_books():
    return [read(text) for text in SMALL] + drawn_books()[:24]


# Plays of up to 10 ** 60 beats.
def long_books():
    chains = [chain("raise arm 7 3", "row AHEAD AHEAD", 60), chain("ring dong 2", "row" + " AHEAD" * 8, 60),
              chain(f"raise leg 9 {GREAT}", "again 5 AHEAD", 60),
              "part x raise arm 9 7\npart y raise arm 2 4\n" + chain("ring ding 2", "row x AHEAD y AHEAD", 50)]
    books = [read(LIMBS + rows) for rows in chains] + [read(many_heights()), read(side_by_side())]
    for base in [read(text) for text in SMALL[10::3]] + drawn_books()[:6]:
        books += [often(base, (GREAT, 7)), far_book(base), utmost_book(base)]
    return books


def far_beats(last):
    found = {0, 1, 2, last // 2, last // 3, last // 7 * 5, last - last // 11 - 1, last - 2, last - 1}
    return sorted(beat for beat in found if 0 <= beat < last)


# The first number, from one on, that is in a list of rising numbers, or None.
def next_of(numbers, begin):
    return next((number for number in numbers if number >= begin), None)


class SmallBooks(unittest.TestCase):
    def test_heights_and_words(self):
        for book in small_books():
            play = play_by(book)
            self.assertEqual(told(book), play)
            self.assertEqual([(stand(book, beat), rings(book, beat)) for beat in range(len(play))], play)

    def test_sums_and_counts(self):
        for book in small_books():
            play = play_by(book)
            for limb, (name, first) in enumerate(book[0][:3]):
                column = [heights[limb] for heights, words in play]
                for beat in range(0, len(play) + 1, 3):
                    self.assertEqual(height_sum(book, name, beat), sum(column[:beat]))
                    for height in {first, column[-1], column[len(column) // 2], first + 1}:
                        self.assertEqual(height_count(book, name, height, beat), column[:beat].count(height))
            for word in WORDS:
                rung = [beat for beat, (heights, words) in enumerate(play) for one in words if one == word]
                for beat in range(0, len(play) + 1, 2):
                    self.assertEqual(ring_count(book, word, beat), len([one for one in rung if one < beat]))

    def test_first_beats(self):
        for book in small_books():
            play = play_by(book)
            for word in WORDS:
                rung = [beat for beat, (heights, words) in enumerate(play) for one in words if one == word]
                found = [ring_beat(book, word, number) for number in range(min(len(rung), 20) + 1)]
                self.assertEqual(found, (rung + [None])[:len(found)])
            for limb, (name, first) in enumerate(book[0][:3]):
                column = [heights[limb] for heights, words in play]
                for height in sorted(set(column))[:4] + [max(column) + 1]:
                    stood = [beat for beat, one in enumerate(column) if one == height]
                    for beat in range(0, len(play), 7):
                        self.assertEqual(first_at(book, name, height, beat), next_of(stood, beat))

    def test_jumps(self):
        for book in small_books():
            heights = [one for one, words in play_by(book)]
            changes = [(beat, book[0][limb][0], heights[beat + 1][limb] - heights[beat][limb])
                       for beat in range(len(heights) - 1) for limb in range(len(book[0]))]
            for most in sorted({abs(change) for beat, limb, change in changes} | {0, 1, 2}):
                self.assertEqual(first_jump(book, most), next((one for one in changes if abs(one[2]) > most), None))

    def test_drums_and_machines(self):
        for book in small_books():
            play = play_by(book)
            box = drums(book)
            pins = pins_by(box)
            self.assertEqual(told(book_of(box)), play)
            self.assertEqual(drums(book_of(box)), box)
            machine = Machine(box)
            for beat, (heights, words) in enumerate(play):
                if beat:
                    self.assertEqual(machine.step(), words)
                self.assertEqual(machine.kept(), (beat, tuple(heights), pins[beat]))

    def test_for_ever(self):
        for book in small_books():
            last = lengths(book)[-1]
            twice = play_by(often(book, (2,)))[:-1]
            self.assertEqual([(stand_ever(book, beat), rings_ever(book, beat)) for beat in range(2 * last)], twice)
            for word in WORDS:
                rung = [beat for beat, (heights, words) in enumerate(twice) if word in words]
                if ring_count(book, word, last) <= 12:
                    for beat in range(0, last, 5):
                        self.assertEqual(meeting([book], [word], beat), next_of(rung, beat))


class LongPlays(unittest.TestCase):
    # From a beat to the next, sums and counts grow by what the beat tells.
    def test_growing(self):
        for book in long_books():
            last = lengths(book)[-1]
            for beat in far_beats(last) + [last]:
                heights = soon(stand, book, beat)
                words = soon(rings, book, beat)
                for (name, first), height in list(zip(book[0], heights))[:3]:
                    more = soon(height_sum, book, name, beat + 1) - soon(height_sum, book, name, beat)
                    self.assertEqual(more, height)
                    for one in {height, height + 1, first}:
                        more = soon(height_count, book, name, one, beat + 1) - height_count(book, name, one, beat)
                        self.assertEqual(more, 1 if one == height else 0)
                for word in WORDS:
                    more = soon(ring_count, book, word, beat + 1) - soon(ring_count, book, word, beat)
                    self.assertEqual(more, words.count(word))

    # The next ring: it rings there, and from the beat to it none is counted.
    def test_rings_by_their_numbers(self):
        for book in long_books():
            last = lengths(book)[-1]
            for word in WORDS:
                for beat in far_beats(last)[::3]:
                    number = ring_count(book, word, beat)
                    found = soon(ring_beat, book, word, number)
                    if found is None:
                        self.assertEqual(ring_count(book, word, last + 1), number)
                    else:
                        self.assertIn(word, rings(book, found))
                        self.assertGreaterEqual(found, beat)
                        self.assertEqual(ring_count(book, word, found), number)

    def test_first_beats_of_heights(self):
        for book in long_books():
            last = lengths(book)[-1]
            for limb, (name, first) in list(enumerate(book[0]))[:2]:
                for beat in far_beats(last)[::3] + [last]:
                    for height in {first, stand(book, last // 3)[limb], stand(book, last)[limb], first + 1}:
                        found = soon(first_at, book, name, height, beat)
                        until = last + 1 if found is None else found
                        more = height_count(book, name, height, until) - height_count(book, name, height, beat)
                        self.assertEqual(more, 0)
                        if found is not None:
                            self.assertGreaterEqual(found, beat)
                            self.assertEqual(stand(book, found)[limb], height)

    def changes_at(self, book, beat):
        after = stand(book, beat + 1)
        return [one - other for one, other in zip(after, stand(book, beat))]

    def test_jumps(self):
        for book in long_books():
            last = lengths(book)[-1]
            names = [name for name, height in book[0]]
            most = 0
            before = -1
            for time in range(4):
                found = soon(first_jump, book, most)
                until = last if found is None else found[0]
                for beat in far_beats(until):
                    self.assertLessEqual(max(abs(change) for change in self.changes_at(book, beat)), most)
                if found is None:
                    break
                changes = self.changes_at(book, found[0])
                limb = next(limb for limb, change in enumerate(changes) if abs(change) > most)
                self.assertEqual(found, (until, names[limb], changes[limb]))
                self.assertGreaterEqual(until, before)
                before = until
                most = abs(found[2])

    # The drums play the same, and a machine set there and turned on stands as the book tells.
    def test_drums_and_machines(self):
        for book in long_books():
            last = lengths(book)[-1]
            box = drums(book)
            back = book_of(box)
            machine = Machine(box)
            for beat in far_beats(last)[::-1]:
                soon(machine.jump, beat)
                self.assertEqual(machine.heights(), stand(book, beat))
                self.assertEqual(soon(machine.step), rings(book, beat + 1))
                self.assertEqual(machine.heights(), stand(back, beat + 1))
                self.assertEqual(rings(back, beat + 1), rings(book, beat + 1))
                kept = machine.kept()
                machine.jump(0)
                machine.jump(beat + 1)
                self.assertEqual(machine.kept(), kept)
                self.assertEqual(resumed(box, kept).kept(), kept)
            for word in WORDS:
                self.assertEqual(ring_count(back, word, last // 3), ring_count(book, word, last // 3))
            for name, height in book[0]:
                self.assertEqual(height_sum(back, name, last // 3), height_sum(book, name, last // 3))
            self.assertEqual([first_jump(back, most) for most in (0, 3)], [first_jump(book, most) for most in (0, 3)])

    # As often as it is said: at one beat, again and again, all is told alike.
    def test_asked_twice(self):
        for book in long_books()[:6]:
            last = lengths(book)[-1]
            for beat in far_beats(last)[::4]:
                self.assertEqual(stand(book, beat), stand(book, beat))
                self.assertEqual(stand_ever(book, beat + last), stand_ever(book, beat + last))


# A height at which no limb ever stands, and a word that nobody rings, are told as others.
class Nothing(unittest.TestCase):
    def test_heights_at_which_no_limb_stands(self):
        for book in small_books()[::3] + long_books()[::3]:
            last = lengths(book)[-1]
            for name, first in book[0][:2]:
                for height in (-1, 10 ** 18 + 1, 10 ** 199, -10 ** 199):
                    self.assertEqual(height_count(book, name, height, last + 1), 0)
                    self.assertIsNone(first_at(book, name, height))
                    self.assertIsNone(first_at(book, name, height, last))

    def test_words_that_nobody_rings(self):
        for book in small_books()[::3] + long_books()[::3]:
            last = lengths(book)[-1]
            for word in ("nobody", "arm", "", "Ding", "ding dong"):
                self.assertEqual(ring_count(book, word, last + 1), 0)
                self.assertIsNone(ring_beat(book, word))
                self.assertIsNone(ring_beat(book, word, 10 ** 199))
                self.assertIsNone(meeting([book], [word], 10 ** 199))


# Lists within what was told, at any depth.
def lists_in(value):
    found = [value] if isinstance(value, list) else []
    for one in value if isinstance(value, (list, tuple)) else ():
        found += lists_in(one)
    return found


class Owning(unittest.TestCase):
    def asks(self, book):
        last = lengths(book)[-1]
        limb = book[0][0][0]
        yield from ((look, (book,)) for look in (moved, lengths, ends, drums, shown))
        if last <= 300:
            yield (told, (book,))
        for beat in (0, last // 2, last):
            yield from ((ask, (book, beat)) for ask in (stand, rings, stand_ever, rings_ever))
            yield (height_sum, (book, limb, beat))
            yield (height_count, (book, limb, book[0][0][1], beat))
            yield (ring_count, (book, "ding", beat))
            yield (ring_beat, (book, "ding", beat))
            yield (first_at, (book, limb, book[0][0][1], beat))
        yield (first_jump, (book, 1))
        yield (meeting, ([book, book], ["nobody", "nobody"], last))
        yield (book_of, (drums(book),))

    def test_nothing_handed_in_is_changed_and_what_is_told_is_the_askers_own(self):
        for book in small_books()[::2] + long_books()[::4]:
            for ask, asked in self.asks(book):
                before = copy.deepcopy(asked)
                found = ask(*asked)
                as_told = copy.deepcopy(found)
                self.assertEqual(asked, before)
                for one in lists_in(found):
                    one.append("more")
                    one[0] = "other"
                self.assertEqual(asked, before, ask.__name__)
                self.assertEqual(ask(*asked), as_told, ask.__name__)

    # What was told stays, whatever is asked and done later.
    def test_what_was_told_stays(self):
        for book in small_books()[::5]:
            book = copy.deepcopy(book)
            found = [ask(*asked) for ask, asked in self.asks(book)]
            as_told = copy.deepcopy(found)
            for ask, asked in self.asks(book):
                ask(*asked)
            book[0].clear()
            book[1].clear()
            self.assertEqual(found, as_told)

    # Within one answer no list is there twice.
    def test_no_list_is_told_twice(self):
        for book in small_books()[::3]:
            for ask, asked in self.asks(book):
                found = [id(one) for one in lists_in(ask(*asked))]
                self.assertEqual(len(set(found)), len(found), ask.__name__)

    def test_a_read_book_is_the_askers_own(self):
        for text in SMALL:
            book = read(text)
            for one in lists_in(book):
                one.clear()
            self.assertNotEqual(read(text), book)
            self.assertEqual(shown(read(text)), text)

    def test_desks_and_machines_do_not_hang_on_what_is_asked_elsewhere(self):
        desk = Desk()
        desk.put("hop", HOP.strip())
        book = read(HOP.strip())
        machine = Machine(drums(book))
        machine.jump(5)
        before = (desk.say("back hop"), desk.say("stand hop 5"), machine.kept())
        book[1].clear()
        other = read(HOP.strip())
        other[0][0] = ("arm", 99)
        Machine(drums(other)).jump(7)
        self.assertEqual((desk.say("back hop"), desk.say("stand hop 5"), machine.kept()), before)


if __name__ == "__main__":
    unittest.main()
