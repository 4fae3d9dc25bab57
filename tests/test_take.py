"""Promise 2: take."""
import unittest

from piecerow.pieces import take

MOST = 18446744073709551615


def taken_one_by_one(begin, n, pieces):
    """What take must answer, told place by place; for small numbers only."""
    answer = [0]
    place = 0
    for piece in pieces:
        for byte in piece:
            if begin <= place and place - begin < n:
                answer.append(byte)
                answer[0] += 1
            place += 1
    return answer


class TakeTest(unittest.TestCase):
    # The row is 10 .. 17, with empty pieces at its ends and within.
    PIECES = [[], [10, 11, 12], [], [13], [], [], [14, 15, 16, 17], []]

    def test_within_one_piece(self):
        self.assertEqual(take(1, 2, [[5, 6, 7, 8]]), [2, 6, 7])
        self.assertEqual(take(5, 2, self.PIECES), [2, 15, 16])

    def test_a_whole_piece(self):
        self.assertEqual(take(0, 3, self.PIECES), [3, 10, 11, 12])
        self.assertEqual(take(3, 1, self.PIECES), [1, 13])

    def test_over_the_ends_of_several_pieces(self):
        self.assertEqual(take(2, 4, self.PIECES), [4, 12, 13, 14, 15])
        self.assertEqual(take(1, 2, [[1, 2], [3, 4]]), [2, 2, 3])

    def test_the_whole_row(self):
        self.assertEqual(take(0, 8, self.PIECES), [8, 10, 11, 12, 13, 14, 15, 16, 17])

    def test_none_asked_for(self):
        for begin in (0, 3, 7, 8, 9, MOST):
            with self.subTest(begin=begin):
                self.assertEqual(take(begin, 0, self.PIECES), [0])

    def test_more_than_there_are(self):
        self.assertEqual(take(0, 9, self.PIECES), [8, 10, 11, 12, 13, 14, 15, 16, 17])
        self.assertEqual(take(6, 3, self.PIECES), [2, 16, 17])
        self.assertEqual(take(6, 1000, self.PIECES), [2, 16, 17])

    def test_from_the_last_byte(self):
        for n in (1, 2, 8, MOST):
            with self.subTest(n=n):
                self.assertEqual(take(7, n, self.PIECES), [1, 17])

    def test_from_the_length_and_beyond(self):
        for begin in (8, 9, 16, 1000, MOST):
            for n in (0, 1, 8, MOST):
                with self.subTest(begin=begin, n=n):
                    self.assertEqual(take(begin, n, self.PIECES), [0])

    def test_largest_numbers(self):
        self.assertEqual(take(0, MOST, self.PIECES), [8, 10, 11, 12, 13, 14, 15, 16, 17])
        self.assertEqual(take(1, MOST, self.PIECES), [7, 11, 12, 13, 14, 15, 16, 17])
        self.assertEqual(take(MOST, 1, self.PIECES), [0])
        self.assertEqual(take(MOST, MOST, self.PIECES), [0])

    def test_numbers_round_the_word_sizes(self):
        for bits in (31, 32, 63, 64):
            for number in (2 ** bits - 2, 2 ** bits - 1, min(2 ** bits, MOST)):
                with self.subTest(number=number):
                    self.assertEqual(take(number, number, self.PIECES), [0])
                    self.assertEqual(take(6, number, self.PIECES), [2, 16, 17])
                    self.assertEqual(take(number, 6, self.PIECES), [0])

    def test_no_byte_at_all(self):
        for pieces in ([], [[]], [[], [], []]):
            for begin in (0, 1, MOST):
                for n in (0, 1, MOST):
                    with self.subTest(pieces=pieces, begin=begin, n=n):
                        self.assertEqual(take(begin, n, pieces), [0])

    def test_lowest_and_highest_bytes(self):
        self.assertEqual(take(0, 4, [[0, 255], [255, 0]]), [4, 0, 255, 255, 0])

    def test_every_small_stretch(self):
        rows = [
            self.PIECES,
            [[10, 11, 12, 13, 14, 15, 16, 17]],
            [[k] for k in range(16)],
            [[], [], [1, 1], [], [0, 1]],
        ]
        for pieces in rows:
            for begin in range(19):
                for n in range(19):
                    with self.subTest(pieces=pieces, begin=begin, n=n):
                        self.assertEqual(take(begin, n, pieces), taken_one_by_one(begin, n, pieces))

    def test_wherever_a_piece_ends_the_row_is_the_same(self):
        row = [3, 1, 4, 1, 5, 9]
        for first in range(7):
            for second in range(first, 7):
                pieces = [row[:first], row[first:second], row[second:]]
                with self.subTest(pieces=pieces):
                    self.assertEqual(take(1, 4, pieces), [4, 1, 4, 1, 5])

    def test_sixteen_longest_pieces(self):
        pieces = [[k] * 65536 for k in range(16)]
        whole = take(0, MOST, pieces)
        self.assertEqual(whole[0], 1048576)
        self.assertTrue(whole[1:] == [byte for piece in pieces for byte in piece])
        self.assertEqual(take(65535, 2, pieces), [2, 0, 1])
        self.assertEqual(take(1048575, 2, pieces), [1, 15])
        self.assertEqual(take(1048576, 2, pieces), [0])

    def test_arguments_by_their_names(self):
        self.assertEqual(take(begin=1, n=2, pieces=[[1, 2], [3, 4]]), [2, 2, 3])


if __name__ == "__main__":
    unittest.main()
