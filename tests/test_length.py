"""Promise 1: length."""
import unittest

from piecerow.pieces import length


class LengthTest(unittest.TestCase):
    def test_no_piece_at_all(self):
        self.assertEqual(length([]), [0])

    def test_only_empty_pieces(self):
        self.assertEqual(length([[]]), [0])
        self.assertEqual(length([[], [], []]), [0])

    def test_one_piece(self):
        self.assertEqual(length([[0]]), [1])
        self.assertEqual(length([[255, 0, 7, 7]]), [4])

    def test_several_pieces(self):
        self.assertEqual(length([[1, 2], [3], [4, 5, 6]]), [6])

    def test_alike_pieces_count_each(self):
        piece = [9, 9]
        self.assertEqual(length([piece, piece, piece]), [6])

    def test_empty_pieces_between_others(self):
        self.assertEqual(length([[], [1, 2], [], [], [3], []]), [3])

    def test_the_bytes_values_do_not_count(self):
        self.assertEqual(length([[0, 0, 0], [255, 255]]), [5])

    def test_sixteen_pieces(self):
        self.assertEqual(length([[k] * k for k in range(16)]), [120])

    def test_sixteen_longest_pieces(self):
        self.assertEqual(length([[1] * 65536 for k in range(16)]), [1048576])

    def test_longest_piece_among_others(self):
        self.assertEqual(length([[1], [2] * 65536, [3]]), [65538])

    def test_argument_by_its_name(self):
        self.assertEqual(length(pieces=[[1], [2]]), [2])


if __name__ == "__main__":
    unittest.main()
