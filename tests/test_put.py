"""Promise 3: put."""
import copy
import unittest

from piecerow.pieces import put

MOST = 18446744073709551615


def put_one_by_one(at, given, rooms):
    """What put must answer, told place by place; for small numbers only."""
    count = 0
    after = []
    place = 0
    for room in rooms:
        for byte in room:
            if at <= place < at + len(given):
                after.append(given[place - at])
                count += 1
            else:
                after.append(byte)
            place += 1
    return [count] + after


class PutTest(unittest.TestCase):
    # The row is 10 .. 17, with empty rooms at its ends and within.
    ROOMS = [[], [10, 11, 12], [], [13], [], [], [14, 15, 16, 17], []]
    ROW = [10, 11, 12, 13, 14, 15, 16, 17]

    def test_into_one_room(self):
        self.assertEqual(put(1, [7, 8], [[1, 2, 3, 4]]), [2, 1, 7, 8, 4])
        self.assertEqual(put(5, [7, 8], self.ROOMS), [2, 10, 11, 12, 13, 14, 7, 8, 17])

    def test_a_whole_room(self):
        self.assertEqual(put(0, [1, 2, 3], self.ROOMS), [3, 1, 2, 3, 13, 14, 15, 16, 17])
        self.assertEqual(put(3, [1], self.ROOMS), [1, 10, 11, 12, 1, 14, 15, 16, 17])

    def test_over_the_ends_of_several_rooms(self):
        self.assertEqual(put(1, [7, 8], [[1, 2], [3, 4]]), [2, 1, 7, 8, 4])
        self.assertEqual(put(2, [1, 2, 3, 4], self.ROOMS), [4, 10, 11, 1, 2, 3, 4, 16, 17])

    def test_the_whole_row(self):
        self.assertEqual(put(0, [1, 2, 3, 4, 5, 6, 7, 8], self.ROOMS), [8, 1, 2, 3, 4, 5, 6, 7, 8])

    def test_no_byte_given(self):
        for at in (0, 3, 7, 8, 9, MOST):
            with self.subTest(at=at):
                self.assertEqual(put(at, [], self.ROOMS), [0] + self.ROW)

    def test_more_than_there_is_room_for(self):
        self.assertEqual(put(0, list(range(9)), self.ROOMS), [8, 0, 1, 2, 3, 4, 5, 6, 7])
        self.assertEqual(put(6, [1, 2, 3], self.ROOMS), [2, 10, 11, 12, 13, 14, 15, 1, 2])
        self.assertEqual(put(3, [1] * 1000, self.ROOMS), [5, 10, 11, 12, 1, 1, 1, 1, 1])

    def test_up_to_just_the_end(self):
        self.assertEqual(put(6, [1, 2], self.ROOMS), [2, 10, 11, 12, 13, 14, 15, 1, 2])
        self.assertEqual(put(2, [1, 2, 3, 4, 5, 6], self.ROOMS), [6, 10, 11, 1, 2, 3, 4, 5, 6])

    def test_at_the_first_byte(self):
        self.assertEqual(put(0, [1], self.ROOMS), [1, 1, 11, 12, 13, 14, 15, 16, 17])

    def test_at_the_last_byte(self):
        for given in ([1], [1, 2], [1, 2, 3, 4, 5, 6, 7, 8, 9]):
            with self.subTest(given=given):
                self.assertEqual(put(7, given, self.ROOMS), [1, 10, 11, 12, 13, 14, 15, 16, 1])

    def test_at_the_length_and_beyond(self):
        for at in (8, 9, 16, 1000, 2 ** 31, 2 ** 32, 2 ** 63 - 1, 2 ** 63, MOST - 1, MOST):
            for given in ([], [1], [1] * 8, [1] * 20):
                with self.subTest(at=at, given=given):
                    self.assertEqual(put(at, given, self.ROOMS), [0] + self.ROW)

    def test_no_room_at_all(self):
        for rooms in ([], [[]], [[], [], []], [[] for k in range(16)]):
            for at in (0, 1, MOST):
                for given in ([], [1], [1, 2, 3]):
                    with self.subTest(rooms=rooms, at=at, given=given):
                        self.assertEqual(put(at, given, rooms), [0])

    def test_lowest_and_highest_bytes(self):
        self.assertEqual(put(1, [0, 255], [[255, 255], [0, 0]]), [2, 255, 0, 255, 0])

    def test_the_longest_given(self):
        given = [k % 256 for k in range(66000)]
        self.assertEqual(put(0, given, self.ROOMS), [8, 0, 1, 2, 3, 4, 5, 6, 7])
        self.assertEqual(put(6, given, self.ROOMS), [2, 10, 11, 12, 13, 14, 15, 0, 1])
        self.assertEqual(put(8, given, self.ROOMS), [0] + self.ROW)
        self.assertEqual(put(0, given, []), [0])
        rooms = [[9] * 5800 for k in range(16)]
        answer = put(5, given, rooms)
        self.assertTrue(answer == [66000] + [9] * 5 + given + [9] * (16 * 5800 - 66005))

    def test_the_given_list_alone_is_never_refused(self):
        for size in (65535, 65536, 65537, 66000):
            with self.subTest(size=size):
                self.assertEqual(put(1, [5] * size, [[1], [2, 3]]), [2, 1, 5, 5])

    def test_refused(self):
        refused = {
            "17 rooms": [[k] for k in range(17)],
            "17 empty rooms": [[] for k in range(17)],
            "a room of 65537 bytes": [[7] * 65537],
            "a room of 65537 bytes as the last": [[1], [], [7] * 65537],
        }
        for name, rooms in refused.items():
            for at in (0, 5, 70000, MOST):
                for given in ([], [1], [1] * 66000):
                    with self.subTest(rooms=name, at=at, given=len(given)):
                        self.assertEqual(put(at, given, rooms), [-2])

    def test_sixteen_rooms(self):
        rooms = [[k, k] for k in range(16)]
        row = [byte for room in rooms for byte in room]
        self.assertEqual(put(15, [100, 101, 102], rooms), [3] + row[:15] + [100, 101, 102] + row[18:])

    def test_the_longest_rooms(self):
        rooms = [[7] * 65536, [8] * 65536]
        self.assertTrue(put(65535, [1, 2], rooms) == [2] + [7] * 65535 + [1, 2] + [8] * 65535)
        self.assertTrue(put(131071, [1, 2], rooms) == [1] + [7] * 65536 + [8] * 65535 + [1])
        self.assertTrue(put(131072, [1, 2], rooms) == [0] + [7] * 65536 + [8] * 65536)

    def test_every_small_stretch(self):
        rows = [
            self.ROOMS,
            [[10, 11, 12, 13, 14, 15, 16, 17]],
            [[k] for k in range(16)],
            [[], [], [1, 1], [], [0, 1]],
        ]
        for rooms in rows:
            for at in range(19):
                for size in range(19):
                    given = list(range(100, 100 + size))
                    with self.subTest(rooms=rooms, at=at, size=size):
                        self.assertEqual(put(at, given, rooms), put_one_by_one(at, given, rooms))

    def test_wherever_a_room_ends_the_row_is_the_same(self):
        row = [3, 1, 4, 1, 5, 9]
        for first in range(7):
            for second in range(first, 7):
                rooms = [row[:first], row[first:second], row[second:]]
                with self.subTest(rooms=rooms):
                    self.assertEqual(put(1, [70, 71, 72, 73], rooms), [4, 3, 70, 71, 72, 73, 9])

    def test_what_is_handed_in_stays(self):
        given = [1, 2, 3, 4]
        rooms = copy.deepcopy(self.ROOMS)
        inner = list(rooms)
        for at in (0, 2, 6, 8, MOST):
            put(at, given, rooms)
            with self.subTest(at=at):
                self.assertEqual(given, [1, 2, 3, 4])
                self.assertEqual(rooms, self.ROOMS)
                self.assertTrue(all(one is other for one, other in zip(rooms, inner)))

    def test_a_room_that_is_given_too(self):
        room = [1, 2, 3]
        self.assertEqual(put(1, room, [room, [9], room]), [3, 1, 1, 2, 3, 1, 2, 3])
        self.assertEqual(room, [1, 2, 3])

    def test_the_same_call_twice(self):
        first = put(2, [1, 2, 3, 4], self.ROOMS)
        self.assertEqual(put(2, [1, 2, 3, 4], self.ROOMS), first)

    def test_arguments_by_their_names(self):
        self.assertEqual(put(at=1, given=[7, 8], rooms=[[1, 2], [3, 4]]), [2, 1, 7, 8, 4])


if __name__ == "__main__":
    unittest.main()
