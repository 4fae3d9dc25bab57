"""Promise 6: compare."""
import copy
import itertools
import unittest

from piecerow.pieces import compare

MOST = 18446744073709551615


def compared_one_by_one(first, second):
    """What compare must answer of two rows, told place by place."""
    place = 0
    while place < len(first) and place < len(second):
        if first[place] != second[place]:
            return [-1] if first[place] < second[place] else [1]
        place += 1
    if len(first) == len(second):
        return [0]
    return [-1] if place == len(first) else [1]


class CompareTest(unittest.TestCase):
    def check(self, first, second, answer):
        """Both rows in one call, and in the other order the opposite answer."""
        with self.subTest(first=first, second=second):
            self.assertEqual(compare(len(first), first + second), [answer])
            self.assertEqual(compare(len(second), second + first), [-answer])

    def test_alike(self):
        self.check([[1, 2, 3]], [[1, 2, 3]], 0)
        self.check([[0]], [[0]], 0)

    def test_alike_but_cut_otherwise(self):
        self.check([[1, 2, 3]], [[1], [2, 3]], 0)
        self.check([[1, 2], [], [3]], [[], [1], [2], [], [3], []], 0)
        self.check([[1], [2], [3], [4]], [[1, 2, 3, 4]], 0)

    def test_the_first_place_differs(self):
        self.check([[1, 9, 9]], [[2, 0, 0]], -1)
        self.check([[0]], [[255]], -1)

    def test_a_middle_place_differs(self):
        self.check([[1, 2], [3, 4]], [[1], [2, 4], [0]], -1)
        self.check([[5, 5, 0, 5, 5]], [[5, 5, 1, 0, 0]], -1)

    def test_the_last_place_differs(self):
        self.check([[1, 2, 3]], [[1, 2], [4]], -1)
        self.check([[1, 2, 254]], [[1, 2, 255]], -1)

    def test_a_byte_weighs_more_than_the_length(self):
        self.check([[1, 2, 3, 4, 5]], [[2]], -1)
        self.check([[1], [2], [3]], [[1, 3]], -1)

    def test_bytes_are_not_signed(self):
        self.check([[127]], [[128]], -1)
        self.check([[1]], [[255]], -1)

    def test_a_row_that_is_a_beginning_of_the_other(self):
        self.check([[1, 2]], [[1, 2, 3]], -1)
        self.check([[1], [2]], [[1, 2], [0]], -1)
        self.check([[0]], [[0, 0]], -1)

    def test_one_row_empty(self):
        self.check([], [[1]], -1)
        self.check([[]], [[0]], -1)
        self.check([[], []], [[], [0], []], -1)

    def test_both_rows_empty(self):
        for pieces in ([], [[]], [[], []], [[], [], []]):
            for k in (0, 1, 2, 3, 4, MOST):
                with self.subTest(pieces=pieces, k=k):
                    self.assertEqual(compare(k, pieces), [0])

    def test_an_empty_piece_is_not_the_end_of_a_row(self):
        self.check([[1], [], [3]], [[1], [2]], 1)
        self.check([[], [1, 2]], [[1], [], [2]], 0)

    def test_k_of_none(self):
        self.assertEqual(compare(0, [[0]]), [-1])
        self.assertEqual(compare(0, [[1], [1]]), [-1])

    def test_k_of_all_and_beyond(self):
        for k in (2, 3, 16, 17, 34, 2 ** 31, 2 ** 32, 2 ** 63 - 1, 2 ** 63, MOST - 1, MOST):
            with self.subTest(k=k):
                self.assertEqual(compare(k, [[0], [5]]), [1])
                self.assertEqual(compare(k, [[], []]), [0])

    def test_each_k(self):
        pieces = [[1], [2], [1], [2]]
        self.assertEqual([compare(k, pieces) for k in range(6)], [[-1], [-1], [0], [-1], [1], [1]])

    def test_sixteen_pieces_in_each_row(self):
        pieces = [[k] for k in range(16)]
        self.check(pieces, pieces, 0)
        self.check(pieces, [[k] for k in range(15)] + [[16]], -1)
        self.check([[] for k in range(16)], [[] for k in range(16)], 0)
        self.assertEqual(compare(16, pieces), [1])
        self.assertEqual(compare(0, pieces), [-1])

    def test_seventeen_pieces_in_a_row(self):
        for piece in ([], [5]):
            for others in range(18):
                pieces = [piece] * (17 + others)
                with self.subTest(piece=piece, others=others):
                    self.assertEqual(compare(17, pieces), [-2])
                    self.assertEqual(compare(others, pieces), [-2])

    def test_twenty_pieces(self):
        pieces = [[k] for k in range(10)] * 2
        self.assertEqual(compare(10, pieces), [0])
        answered = [k for k in range(25) if compare(k, pieces) != [-2]]
        self.assertEqual(answered, list(range(4, 17)))
        for k in (0, 3, 17, 20, 21, MOST):
            with self.subTest(k=k):
                self.assertEqual(compare(k, pieces), [-2])

    def test_thirty_two_to_forty_pieces(self):
        self.assertEqual([k for k in range(40) if compare(k, [[1]] * 32) != [-2]], [16])
        self.assertEqual([k for k in range(40) if compare(k, [[1]] * 33) != [-2]], [])
        self.assertEqual([k for k in range(40) if compare(k, [[]] * 34) != [-2]], [])
        self.assertEqual([k for k in range(50) if compare(k, [[]] * 40) != [-2]], [])

    def test_the_longest_pieces(self):
        self.check([[7] * 65536], [[7] * 65536], 0)
        self.check([[7] * 65536], [[7] * 65535, [8]], -1)
        self.check([[7] * 65536], [[7] * 65536, [0]], -1)

    def test_a_piece_too_long_in_either_row(self):
        for others in ([], [[]], [[9]]):
            for pieces in ([[7] * 65537] + others, others + [[7] * 65537], others + [[7] * 65537] + others):
                for k in (0, 1, 2, 3, MOST):
                    with self.subTest(sizes=[len(piece) for piece in pieces], k=k):
                        self.assertEqual(compare(k, pieces), [-2])

    def test_a_piece_too_long_where_the_rows_are_alike(self):
        self.assertEqual(compare(1, [[7] * 65537, [7] * 65537]), [-2])

    def test_every_two_small_rows(self):
        rows = [list(row) for size in range(4) for row in itertools.product((0, 1, 2), repeat=size)]
        for first in rows:
            for second in rows:
                with self.subTest(first=first, second=second):
                    expected = compared_one_by_one(first, second)
                    self.assertEqual(compare(1, [first, second]), expected)
                    self.assertEqual(compare(2, [first[:1], first[1:], second[:2], second[2:]]), expected)

    def test_what_is_handed_in_stays(self):
        before = [[1, 2], [], [3], [1], [2, 4]]
        pieces = copy.deepcopy(before)
        inner = list(pieces)
        for k in (0, 2, 3, 5, MOST):
            compare(k, pieces)
            with self.subTest(k=k):
                self.assertEqual(pieces, before)
                self.assertTrue(all(one is other for one, other in zip(pieces, inner)))

    def test_one_whole_number_is_given_back(self):
        for k, pieces in ((1, [[1], [1]]), (1, [[1], [2]]), (1, [[2], [1]]), (0, [[]] * 17)):
            answer = compare(k, pieces)
            with self.subTest(k=k, pieces=pieces):
                self.assertEqual([type(number) for number in answer], [int])

    def test_the_same_call_twice(self):
        pieces = [[1, 2], [3], [1], [2, 4]]
        self.assertEqual(compare(2, pieces), [-1])
        self.assertEqual(compare(2, pieces), [-1])

    def test_arguments_by_their_names(self):
        self.assertEqual(compare(k=1, pieces=[[2], [1]]), [1])


if __name__ == "__main__":
    unittest.main()
