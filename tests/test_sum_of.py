"""Promise 7: the words' sum, sum_of."""
import copy
import itertools
import unittest

from piecerow.pieces import sum_of


def summed_one_by_one(pieces):
    """What sum_of must answer, told pair by pair."""
    row = [byte for piece in pieces for byte in piece]
    if len(row) % 2 == 1:
        row.append(0)
    total = 0
    for place in range(0, len(row), 2):
        total += row[place] * 256 + row[place + 1]
    while total > 65535:
        above, lowest = divmod(total, 65536)
        total = above + lowest
    return [total]


class SumOfTest(unittest.TestCase):
    def test_no_byte_at_all(self):
        for pieces in ([], [[]], [[], [], []], [[] for k in range(16)]):
            with self.subTest(pieces=pieces):
                self.assertEqual(sum_of(pieces), [0])

    def test_one_byte(self):
        self.assertEqual(sum_of([[1]]), [256])
        self.assertEqual(sum_of([[255]]), [65280])
        self.assertEqual(sum_of([[], [7], []]), [1792])

    def test_one_pair(self):
        self.assertEqual(sum_of([[1, 2]]), [258])
        self.assertEqual(sum_of([[0, 255]]), [255])
        self.assertEqual(sum_of([[255, 0]]), [65280])

    def test_an_even_number_of_bytes(self):
        self.assertEqual(sum_of([[1, 2, 3, 4]]), [1030])
        self.assertEqual(sum_of([[1, 2, 3, 4, 5, 6]]), [2316])

    def test_an_odd_number_of_bytes(self):
        self.assertEqual(sum_of([[1, 2, 3]]), [1026])
        self.assertEqual(sum_of([[1, 2, 3, 4, 5]]), [2310])

    def test_a_pair_over_the_end_of_a_piece(self):
        self.assertEqual(sum_of([[1], [2]]), [258])
        self.assertEqual(sum_of([[1, 2, 3], [4]]), [1030])
        self.assertEqual(sum_of([[1], [2, 3], [4]]), [1030])
        self.assertEqual(sum_of([[1], [2], [3], [4]]), [1030])

    def test_a_pair_with_empty_pieces_between(self):
        self.assertEqual(sum_of([[1], [], [], [2]]), [258])
        self.assertEqual(sum_of([[], [1], [], [2, 3], [], [4], []]), [1030])

    def test_odd_pieces_make_pairs_with_the_next(self):
        self.assertEqual(sum_of([[1, 2, 3], [4, 5, 6]]), [2316])
        self.assertEqual(sum_of([[1, 2, 3], [4, 5]]), [2310])

    def test_just_65535(self):
        self.assertEqual(sum_of([[255, 255]]), [65535])
        self.assertEqual(sum_of([[255, 0, 0, 255]]), [65535])
        self.assertEqual(sum_of([[255, 254], [0, 1]]), [65535])

    def test_just_65536(self):
        self.assertEqual(sum_of([[255, 255], [0, 1]]), [1])
        self.assertEqual(sum_of([[128, 0, 128]]), [1])
        self.assertEqual(sum_of([[255, 0, 1]]), [1])

    def test_round_131070(self):
        self.assertEqual(sum_of([[255, 255, 255, 254]]), [65534])
        self.assertEqual(sum_of([[255, 255, 255, 255]]), [65535])
        self.assertEqual(sum_of([[255, 255, 255, 255, 0, 1]]), [1])
        self.assertEqual(sum_of([[255, 255, 255, 255, 0, 2]]), [2])

    def test_the_adding_done_more_than_once(self):
        # 131071 becomes 1 + 65535, that is 65536, and this 1 + 0.
        self.assertEqual(sum_of([[255, 255], [255, 255], [0, 1]]), [1])
        # 196607 becomes 2 + 65535, that is 65537, and this 1 + 1.
        self.assertEqual(sum_of([[255, 255] * 3, [0, 2]]), [2])

    def test_the_adding_done_three_times(self):
        # 4295032831 becomes 65536 + 65535, that is 131071, this 1 + 65535, and this 1 + 0.
        pieces = [[255] * 65536, [255] * 65536, [255] * 4, [0, 1]]
        self.assertEqual(sum_of(pieces), [1])

    def test_many_highest_bytes(self):
        self.assertEqual(sum_of([[255] * 5800 for k in range(16)]), [65535])
        self.assertEqual(sum_of([[255] * 5800 for k in range(15)] + [[255] * 5799]), [65280])
        self.assertEqual(sum_of([[255] * 65536 for k in range(16)]), [65535])
        self.assertEqual(sum_of([[255] * 5800 for k in range(20)]), [-2])

    def test_all_bytes_0(self):
        for size in (1, 2, 3, 1000, 5799, 5800):
            with self.subTest(size=size):
                self.assertEqual(sum_of([[0] * size]), [0])
                self.assertEqual(sum_of([[0] * size for k in range(16)]), [0])

    def test_zeros_ahead_and_behind(self):
        self.assertEqual(sum_of([[0, 0, 1, 2]]), [258])
        self.assertEqual(sum_of([[0, 1, 2]]), [513])
        self.assertEqual(sum_of([[1, 2, 0]]), [258])

    def test_the_bound_of_pieces(self):
        self.assertEqual(sum_of([[k] for k in range(16)]), [56 * 256 + 64])
        self.assertEqual(sum_of([[k] for k in range(17)]), [-2])
        self.assertEqual(sum_of([[] for k in range(17)]), [-2])

    def test_the_bound_of_a_piece(self):
        self.assertEqual(sum_of([[0, 1] * 32768]), [32768])
        self.assertEqual(sum_of([[0] * 65537]), [-2])
        self.assertEqual(sum_of([[1], [], [7] * 65537]), [-2])

    def test_small_rows(self):
        for size in range(7):
            for row in itertools.product((0, 128, 255), repeat=size):
                row = list(row)
                with self.subTest(row=row):
                    expected = summed_one_by_one([row])
                    self.assertEqual(sum_of([row]), expected)
                    self.assertEqual(sum_of([row[:1], [], row[1:4], row[4:]]), expected)

    def test_long_rows(self):
        for size in (1000, 1001, 5799, 5800):
            for step in (1, 7, 91, 255):
                pieces = [[(k * step + other) % 256 for k in range(size)] for other in range(16)]
                with self.subTest(size=size, step=step):
                    self.assertEqual(sum_of(pieces), summed_one_by_one(pieces))

    def test_wherever_a_piece_ends_the_row_is_the_same(self):
        row = [3, 1, 4, 1, 5, 9, 2]
        for first in range(8):
            for second in range(first, 8):
                pieces = [row[:first], row[first:second], row[second:]]
                with self.subTest(pieces=pieces):
                    self.assertEqual(sum_of(pieces), [14 * 256 + 11])

    def test_what_is_handed_in_stays(self):
        before = [[1, 2, 3], [], [255], [255, 255]]
        pieces = copy.deepcopy(before)
        inner = list(pieces)
        sum_of(pieces)
        self.assertEqual(pieces, before)
        self.assertTrue(all(one is other for one, other in zip(pieces, inner)))

    def test_one_whole_number_is_given_back(self):
        for pieces in ([], [[0]], [[0, 1]], [[255, 255, 0, 1]], [[]] * 17):
            with self.subTest(pieces=pieces):
                self.assertEqual([type(number) for number in sum_of(pieces)], [int])

    def test_the_same_call_twice(self):
        pieces = [[1, 2, 3], [4]]
        self.assertEqual(sum_of(pieces), [1030])
        self.assertEqual(sum_of(pieces), [1030])

    def test_arguments_by_their_names(self):
        self.assertEqual(sum_of(pieces=[[1], [2]]), [258])


if __name__ == "__main__":
    unittest.main()
