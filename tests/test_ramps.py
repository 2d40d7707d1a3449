import itertools
import unittest

from camplay.ramps import ramp, ramp_count, ramp_first, ramp_sum
from great import figures

# start, goal, beats: rising, falling, staying, below 0, of 1 beat, steep and flat
SMALL = list(itertools.product((-5, -1, 0, 3), (-7, -2, 0, 1, 3, 9), (1, 2, 3, 4, 7, 11, 30)))


# The height told by its words alone: the greatest whole number that is not above the share.
def by_words(start, goal, beats, j):
    share = -abs(goal - start) * j - 1
    while (share + 1) * beats <= (goal - start) * j:
        share += 1
    return start + share


def heights_of(start, goal, beats):
    return [by_words(start, goal, beats, j) for j in range(beats + 1)]


class Heights(unittest.TestCase):
    def test_heights_told_by_hand(self):
        self.assertEqual([ramp(0, 10, 3, j) for j in range(4)], [0, 3, 6, 10])
        self.assertEqual([ramp(10, 0, 3, j) for j in range(4)], [10, 6, 3, 0])
        self.assertEqual([ramp(-3, 2, 4, j) for j in range(5)], [-3, -2, -1, 0, 2])
        self.assertEqual([ramp(2, -3, 4, j) for j in range(5)], [2, 0, -1, -2, -3])
        self.assertEqual([ramp(4, 4, 3, j) for j in range(4)], [4, 4, 4, 4])
        self.assertEqual([ramp(0, 2, 5, j) for j in range(6)], [0, 0, 0, 1, 1, 2])
        self.assertEqual([ramp(2, 0, 5, j) for j in range(6)], [2, 1, 1, 0, 0, 0])
        self.assertEqual([ramp(-7, 8, 1, j) for j in range(2)], [-7, 8])

    def test_against_the_words(self):
        for start, goal, beats in SMALL:
            self.assertEqual([ramp(start, goal, beats, j) for j in range(beats + 1)],
                             heights_of(start, goal, beats), (start, goal, beats))

    def test_start_at_the_begin_and_goal_at_the_end(self):
        great = [figures(count, salt) for count in (60, 200) for salt in (1, 2)]
        for start, goal in itertools.product([0, 5, -5] + great, [0, 7, -7] + great):
            for beats in [1, 2, 9] + great:
                self.assertEqual(ramp(start, goal, beats, 0), start)
                self.assertEqual(ramp(start, goal, beats, beats), goal)

    def test_great_heights_and_beats(self):
        for count in (60, 200):
            beats = 2 * 10 ** (count - 1)
            self.assertEqual(ramp(0, 7, beats, beats // 2), 3)
            self.assertEqual(ramp(7, 0, beats, beats // 2), 3)
            self.assertEqual(ramp(7, 0, beats, 1), 6)
            self.assertEqual(ramp(-beats, beats, beats, beats // 2 + 1), 2)
            self.assertEqual(ramp(0, beats + 1, 2, 1), beats // 2)
            self.assertEqual(ramp(0, -beats - 1, 2, 1), -beats // 2 - 1)


class SumsAndCounts(unittest.TestCase):
    def test_sums_against_the_heights(self):
        for start, goal, beats in SMALL:
            heights = heights_of(start, goal, beats)
            for many in range(beats + 2):
                self.assertEqual(ramp_sum(start, goal, beats, many), sum(heights[:many]), (start, goal, beats, many))

    def test_counts_against_the_heights(self):
        for start, goal, beats in SMALL:
            heights = heights_of(start, goal, beats)
            for height, many in itertools.product(range(-9, 12), range(beats + 2)):
                self.assertEqual(ramp_count(start, goal, beats, height, many), heights[:many].count(height),
                                 (start, goal, beats, height, many))

    def test_counts_told_by_hand(self):
        self.assertEqual(ramp_count(0, 10, 3, 10, 3), 0)
        self.assertEqual(ramp_count(0, 10, 3, 10, 4), 1)
        self.assertEqual(ramp_count(0, 10, 3, 5, 4), 0)
        self.assertEqual(ramp_count(2, 0, 5, 0, 6), 3)
        self.assertEqual(ramp_count(2, 0, 5, 2, 6), 1)
        self.assertEqual(ramp_count(4, 4, 6, 4, 7), 7)
        self.assertEqual(ramp_count(4, 4, 6, 5, 7), 0)


class FirstBeats(unittest.TestCase):
    def test_against_the_heights(self):
        for start, goal, beats in SMALL:
            heights = heights_of(start, goal, beats)
            for height, j in itertools.product(range(-9, 12), range(beats + 3)):
                found = [k for k in range(j, beats) if heights[k] == height]
                self.assertEqual(ramp_first(start, goal, beats, height, j), found[0] if found else None,
                                 (start, goal, beats, height, j))

    def test_never_the_beat_at_which_the_beats_are_over(self):
        self.assertIsNone(ramp_first(0, 10, 3, 10))
        self.assertIsNone(ramp_first(4, 4, 3, 4, 3))
        self.assertEqual(ramp_first(4, 4, 3, 4, 2), 2)
        self.assertEqual(ramp_first(2, 0, 5, 0), 3)

    def test_from_the_begin_where_j_is_left_out(self):
        self.assertEqual(ramp_first(5, 9, 40, 5), 0)
        self.assertEqual(ramp_first(5, 9, 40, 8), 30)


class GreatRamps(unittest.TestCase):
    def ramps(self):
        for count in (60, 200):
            great = figures(count, 1)
            other = figures(count, 2)
            for beats in (figures(count, 3), figures(count // 2, 4), 1, 7):
                for start, goal in ((0, great), (great, 0), (great, other), (-great, other), (other, -great),
                                    (3, 5), (5, -3), (great, great), (0, 0), (great, great + 1)):
                    yield start, goal, beats

    def places(self, beats):
        near = [0, 1, 2, beats // 3, beats // 2, beats - 2, beats - 1, beats]
        return sorted({j for j in near if 0 <= j <= beats})

    # Heights that the ramp has, their neighbours, which it may step over, and those beyond its ends.
    def heights(self, start, goal, beats):
        found = {start - 1, start + 1, goal - 1, goal + 1, min(start, goal) - 10 ** 50, max(start, goal) + 10 ** 50}
        for j in self.places(beats):
            height = ramp(start, goal, beats, j)
            found.update((height - 1, height, height + 1))
        return sorted(found)

    def test_the_sum_grows_by_just_the_height(self):
        for start, goal, beats in self.ramps():
            self.assertEqual(ramp_sum(start, goal, beats, 0), 0)
            for j in self.places(beats):
                grown = ramp_sum(start, goal, beats, j + 1) - ramp_sum(start, goal, beats, j)
                self.assertEqual(grown, ramp(start, goal, beats, j), (start, goal, beats, j))

    def test_whole_sums_that_are_known(self):
        for count in (60, 200):
            beats = figures(count, 3)
            self.assertEqual(ramp_sum(0, beats, beats, beats + 1), beats * (beats + 1) // 2)
            self.assertEqual(ramp_sum(beats, -beats, beats, beats + 1), 0)
            self.assertEqual(ramp_sum(8, 8, beats, beats + 1), 8 * (beats + 1))
            self.assertEqual(ramp_sum(0, 1, beats, beats + 1), 1)
            self.assertEqual(ramp_sum(1, 0, beats, beats + 1), 1)

    def test_the_count_grows_by_one_just_at_the_height(self):
        for start, goal, beats in self.ramps():
            for height in self.heights(start, goal, beats):
                self.assertEqual(ramp_count(start, goal, beats, height, 0), 0)
                for j in self.places(beats):
                    grown = (ramp_count(start, goal, beats, height, j + 1)
                             - ramp_count(start, goal, beats, height, j))
                    told = 1 if ramp(start, goal, beats, j) == height else 0
                    self.assertEqual(grown, told, (start, goal, beats, height, j))

    def test_whole_counts_that_are_known(self):
        for count in (60, 200):
            half = figures(count - 1, 3)
            beats = 2 * half
            self.assertEqual(ramp_count(0, 2, beats, 0, beats + 1), half)
            self.assertEqual(ramp_count(0, 2, beats, 1, beats + 1), half)
            self.assertEqual(ramp_count(0, 2, beats, 2, beats + 1), 1)
            self.assertEqual(ramp_count(2, 0, beats, 2, beats + 1), 1)
            self.assertEqual(ramp_count(2, 0, beats, 0, beats + 1), half)
            self.assertEqual(ramp_count(0, beats * 3, beats, half * 3, beats + 1), 1)
            self.assertEqual(ramp_count(0, beats * 3, beats, half * 3 + 1, beats + 1), 0)
            self.assertEqual(ramp_count(8, 8, beats, 8, beats + 1), beats + 1)

    # A ramp never turns: the beat told is the least one if the beat ahead is not at the height.
    def test_what_stands_at_the_beat_that_is_told(self):
        for start, goal, beats in self.ramps():
            for height in self.heights(start, goal, beats):
                for j in self.places(beats) + [beats + 1]:
                    beat = ramp_first(start, goal, beats, height, j)
                    if beat is None:
                        ahead = ramp_count(start, goal, beats, height, min(j, beats))
                        self.assertEqual(ramp_count(start, goal, beats, height, beats), ahead)
                    else:
                        self.assertTrue(j <= beat < beats)
                        self.assertEqual(ramp(start, goal, beats, beat), height)
                        self.assertTrue(beat == j or ramp(start, goal, beats, beat - 1) != height)

    def test_a_height_that_stands_at_j_is_told_at_j(self):
        for start, goal, beats in self.ramps():
            for j in self.places(beats):
                told = ramp_first(start, goal, beats, ramp(start, goal, beats, j), j)
                self.assertEqual(told, j if j < beats else None)


if __name__ == "__main__":
    unittest.main()
