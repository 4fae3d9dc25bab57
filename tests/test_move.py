"""Promise 4: move."""
import copy
import unittest

from piecerow.pieces import move

MOST = 18446744073709551615


def moved_one_by_one(begin, to, n, rooms):
    """What move must answer, told place by place; for small numbers only."""
    before = [byte for room in rooms for byte in room]
    after = list(before)
    count = 0
    while count < n and begin + count < len(before) and to + count < len(before):
        after[to + count] = before[begin + count]
        count += 1
    return [count] + after


class MoveTest(unittest.TestCase):
    # The row is 10 .. 17, with empty rooms at its ends and within.
    ROOMS = [[], [10, 11, 12], [], [13], [], [], [14, 15, 16, 17], []]
    ROW = [10, 11, 12, 13, 14, 15, 16, 17]

    def test_stretches_apart(self):
        self.assertEqual(move(0, 4, 2, [[1, 2, 3, 4, 5, 6]]), [2, 1, 2, 3, 4, 1, 2])
        self.assertEqual(move(4, 0, 2, [[1, 2, 3, 4, 5, 6]]), [2, 5, 6, 3, 4, 5, 6])

    def test_stretches_side_by_side(self):
        self.assertEqual(move(0, 3, 3, [[1, 2, 3, 4, 5, 6]]), [3, 1, 2, 3, 1, 2, 3])
        self.assertEqual(move(3, 0, 3, [[1, 2, 3, 4, 5, 6]]), [3, 4, 5, 6, 4, 5, 6])

    def test_shared_places_to_behind_begin(self):
        self.assertEqual(move(0, 1, 4, [[1, 2, 3, 4, 5, 6]]), [4, 1, 1, 2, 3, 4, 6])
        self.assertEqual(move(1, 3, 5, self.ROOMS), [5, 10, 11, 12, 11, 12, 13, 14, 15])

    def test_shared_places_to_ahead_of_begin(self):
        self.assertEqual(move(1, 0, 4, [[1, 2, 3, 4, 5, 6]]), [4, 2, 3, 4, 5, 5, 6])
        self.assertEqual(move(3, 1, 5, self.ROOMS), [5, 10, 13, 14, 15, 16, 17, 16, 17])

    def test_begin_and_to_the_same(self):
        for place, n, count in ((0, 8, 8), (0, MOST, 8), (2, 3, 3), (7, 2, 1), (8, 1, 0), (MOST, MOST, 0)):
            with self.subTest(place=place, n=n):
                self.assertEqual(move(place, place, n, self.ROOMS), [count] + self.ROW)

    def test_none_to_move(self):
        for begin in (0, 3, 7, 8, 9, MOST):
            for to in (0, 3, 7, 8, 9, MOST):
                with self.subTest(begin=begin, to=to):
                    self.assertEqual(move(begin, to, 0, self.ROOMS), [0] + self.ROW)

    def test_over_the_ends_of_several_rooms(self):
        self.assertEqual(move(2, 4, 3, self.ROOMS), [3, 10, 11, 12, 13, 12, 13, 14, 17])
        self.assertEqual(move(5, 1, 3, self.ROOMS), [3, 10, 15, 16, 17, 14, 15, 16, 17])
        self.assertEqual(move(0, 1, 3, [[1], [], [2], [3], [], [4]]), [3, 1, 1, 2, 3])

    def test_more_than_there_are_behind_begin(self):
        for n in (3, 8, 1000, MOST):
            with self.subTest(n=n):
                self.assertEqual(move(6, 0, n, self.ROOMS), [2, 16, 17, 12, 13, 14, 15, 16, 17])

    def test_just_as_many_as_there_are_behind_begin(self):
        self.assertEqual(move(6, 0, 2, self.ROOMS), [2, 16, 17, 12, 13, 14, 15, 16, 17])

    def test_more_than_there_are_behind_to(self):
        for n in (3, 8, 1000, MOST):
            with self.subTest(n=n):
                self.assertEqual(move(0, 6, n, self.ROOMS), [2, 10, 11, 12, 13, 14, 15, 10, 11])

    def test_just_as_many_as_there_are_behind_to(self):
        self.assertEqual(move(0, 6, 2, self.ROOMS), [2, 10, 11, 12, 13, 14, 15, 10, 11])

    def test_the_last_byte(self):
        for n in (1, 2, 8, MOST):
            with self.subTest(n=n):
                self.assertEqual(move(7, 0, n, self.ROOMS), [1, 17, 11, 12, 13, 14, 15, 16, 17])
                self.assertEqual(move(0, 7, n, self.ROOMS), [1, 10, 11, 12, 13, 14, 15, 16, 10])

    def test_the_length_and_beyond(self):
        for beyond in (8, 9, 16, 1000, 2 ** 31, 2 ** 32, 2 ** 63 - 1, 2 ** 63, MOST - 1, MOST):
            for place in (0, 3, 7, 8, 9, MOST):
                for n in (1, 8, MOST):
                    with self.subTest(beyond=beyond, place=place, n=n):
                        self.assertEqual(move(beyond, place, n, self.ROOMS), [0] + self.ROW)
                        self.assertEqual(move(place, beyond, n, self.ROOMS), [0] + self.ROW)

    def test_numbers_round_the_word_sizes(self):
        for bits in (31, 32, 63, 64):
            for n in (2 ** bits - 2, 2 ** bits - 1, min(2 ** bits, MOST)):
                with self.subTest(n=n):
                    self.assertEqual(move(5, 1, n, self.ROOMS), [3, 10, 15, 16, 17, 14, 15, 16, 17])
                    self.assertEqual(move(1, 5, n, self.ROOMS), [3, 10, 11, 12, 13, 14, 11, 12, 13])

    def test_no_room_at_all(self):
        for rooms in ([], [[]], [[], [], []], [[] for k in range(16)]):
            for begin in (0, 1, MOST):
                for to in (0, 1, MOST):
                    for n in (0, 1, MOST):
                        with self.subTest(rooms=rooms, begin=begin, to=to, n=n):
                            self.assertEqual(move(begin, to, n, rooms), [0])

    def test_refused(self):
        refused = {
            "17 rooms": [[k] for k in range(17)],
            "17 empty rooms": [[] for k in range(17)],
            "a room of 65537 bytes": [[7] * 65537],
            "a room of 65537 bytes as the last": [[1], [], [7] * 65537],
        }
        for name, rooms in refused.items():
            for begin in (0, 5, MOST):
                for to in (0, 5, MOST):
                    for n in (0, 1, MOST):
                        with self.subTest(rooms=name, begin=begin, to=to, n=n):
                            self.assertEqual(move(begin, to, n, rooms), [-2])

    def test_sixteen_rooms(self):
        rooms = [[k] for k in range(16)]
        self.assertEqual(move(0, 1, 14, rooms), [14, 0] + list(range(14)) + [15])

    def test_the_longest_rooms(self):
        rooms = [[7] * 65536, [8] * 65536]
        self.assertTrue(move(65535, 0, 2, rooms) == [2, 7, 8] + [7] * 65534 + [8] * 65536)
        self.assertTrue(move(0, 65536, MOST, rooms) == [65536] + [7] * 131072)
        self.assertTrue(move(65536, 1, MOST, rooms) == [65536, 7] + [8] * 131071)

    def test_every_small_stretch(self):
        rows = [self.ROOMS, [[1, 2, 3, 4, 5, 6]], [[], [1, 2], [], [3]]]
        for rooms in rows:
            for begin in range(10):
                for to in range(10):
                    for n in range(10):
                        with self.subTest(rooms=rooms, begin=begin, to=to, n=n):
                            self.assertEqual(move(begin, to, n, rooms), moved_one_by_one(begin, to, n, rooms))

    def test_wherever_a_room_ends_the_row_is_the_same(self):
        row = [3, 1, 4, 1, 5, 9]
        for first in range(7):
            for second in range(first, 7):
                rooms = [row[:first], row[first:second], row[second:]]
                with self.subTest(rooms=rooms):
                    self.assertEqual(move(0, 1, 4, rooms), [4, 3, 3, 1, 4, 1, 9])
                    self.assertEqual(move(1, 0, 4, rooms), [4, 1, 4, 1, 5, 5, 9])

    def test_what_is_handed_in_stays(self):
        rooms = copy.deepcopy(self.ROOMS)
        inner = list(rooms)
        for begin, to, n in ((0, 1, 4), (1, 0, 4), (0, 0, 8), (0, 8, 1), (0, 1, MOST)):
            move(begin, to, n, rooms)
            with self.subTest(begin=begin, to=to, n=n):
                self.assertEqual(rooms, self.ROOMS)
                self.assertTrue(all(one is other for one, other in zip(rooms, inner)))

    def test_a_room_that_stands_twice(self):
        room = [1, 2, 3]
        self.assertEqual(move(0, 1, 2, [room, room]), [2, 1, 1, 2, 1, 2, 3])
        self.assertEqual(room, [1, 2, 3])

    def test_the_same_call_twice(self):
        first = move(0, 2, 5, self.ROOMS)
        self.assertEqual(move(0, 2, 5, self.ROOMS), first)

    def test_arguments_by_their_names(self):
        self.assertEqual(move(begin=0, to=1, n=2, rooms=[[1, 2], [3, 4]]), [2, 1, 1, 2, 4])


if __name__ == "__main__":
    unittest.main()
