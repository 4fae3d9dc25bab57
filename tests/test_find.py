"""Promise 5: find."""
import copy
import itertools
import unittest

from piecerow.pieces import find

MOST = 18446744073709551615


def found_one_by_one(begin, word, pieces):
    """What find must answer, told place by place; for small rows only."""
    row = [byte for piece in pieces for byte in piece]
    for place in range(len(row)):
        if place < begin or place + len(word) > len(row):
            continue
        if all(row[place + k] == word[k] for k in range(len(word))):
            return [place]
    return [-1]


class FindTest(unittest.TestCase):
    # The row is 10 .. 17, with empty pieces at its ends and within.
    PIECES = [[], [10, 11, 12], [], [13], [], [], [14, 15, 16, 17], []]

    def test_within_one_piece(self):
        self.assertEqual(find(0, [6, 7], [[5, 6, 7, 8]]), [1])
        self.assertEqual(find(0, [15, 16], self.PIECES), [5])

    def test_a_whole_piece(self):
        self.assertEqual(find(0, [13], self.PIECES), [3])
        self.assertEqual(find(0, [14, 15, 16, 17], self.PIECES), [4])

    def test_over_the_end_of_a_piece(self):
        self.assertEqual(find(0, [2, 3], [[1, 2], [3, 4]]), [1])
        self.assertEqual(find(0, [12, 13], self.PIECES), [2])

    def test_over_the_ends_of_several_pieces(self):
        self.assertEqual(find(0, [12, 13, 14], self.PIECES), [2])
        self.assertEqual(find(0, [2, 3, 4], [[1], [2], [3], [4], [5]]), [1])
        self.assertEqual(find(0, [2, 3, 4], [[1, 2], [], [3], [], [], [4, 5]]), [1])

    def test_at_the_beginning(self):
        self.assertEqual(find(0, [10], self.PIECES), [0])
        self.assertEqual(find(0, [10, 11, 12, 13], self.PIECES), [0])

    def test_at_the_very_end(self):
        self.assertEqual(find(0, [17], self.PIECES), [7])
        self.assertEqual(find(0, [16, 17], self.PIECES), [6])
        self.assertEqual(find(6, [16, 17], self.PIECES), [6])

    def test_the_whole_row(self):
        self.assertEqual(find(0, [10, 11, 12, 13, 14, 15, 16, 17], self.PIECES), [0])
        self.assertEqual(find(1, [10, 11, 12, 13, 14, 15, 16, 17], self.PIECES), [-1])

    def test_a_word_that_begins_again_within_itself(self):
        self.assertEqual(find(0, [1, 1, 2], [[1, 1, 1, 2]]), [1])
        self.assertEqual(find(0, [1, 1, 2], [[1], [1], [1], [2]]), [1])
        self.assertEqual(find(0, [1, 2, 1, 3], [[1, 2, 1], [2, 1, 3]]), [2])
        self.assertEqual(find(0, [1, 1, 2], [[1, 1, 1, 1]]), [-1])

    def test_the_first_of_several_places(self):
        pieces = [[7, 1, 2], [7, 1], [2, 7], [1, 2]]
        self.assertEqual(find(0, [1, 2], pieces), [1])
        self.assertEqual(find(0, [5, 5], [[5, 5, 5, 5]]), [0])

    def test_from_just_at_a_place_and_just_behind_it(self):
        pieces = [[7, 1, 2], [7, 1], [2, 7], [1, 2]]
        self.assertEqual(find(1, [1, 2], pieces), [1])
        self.assertEqual(find(2, [1, 2], pieces), [4])
        self.assertEqual(find(4, [1, 2], pieces), [4])
        self.assertEqual(find(5, [1, 2], pieces), [7])
        self.assertEqual(find(7, [1, 2], pieces), [7])
        self.assertEqual(find(8, [1, 2], pieces), [-1])

    def test_places_that_share_bytes(self):
        self.assertEqual(find(1, [5, 5], [[5, 5], [5, 5]]), [1])
        self.assertEqual(find(2, [5, 5], [[5, 5], [5, 5]]), [2])
        self.assertEqual(find(3, [5, 5], [[5, 5], [5, 5]]), [-1])

    def test_a_word_that_is_not_there(self):
        self.assertEqual(find(0, [9], self.PIECES), [-1])
        self.assertEqual(find(0, [11, 13], self.PIECES), [-1])
        self.assertEqual(find(0, [12, 11], self.PIECES), [-1])

    def test_a_word_that_only_begins_in_the_row(self):
        self.assertEqual(find(0, [17, 18], self.PIECES), [-1])
        self.assertEqual(find(0, [17, 10], self.PIECES), [-1])
        self.assertEqual(find(0, [1, 2, 3], [[2, 3, 1], [2]]), [-1])

    def test_a_word_longer_than_the_row(self):
        self.assertEqual(find(0, [1, 2, 3], [[1, 2]]), [-1])
        self.assertEqual(find(0, [1, 2], [[], [1], []]), [-1])
        self.assertEqual(find(0, [7] * 64, [[7] * 63]), [-1])

    def test_from_the_length_and_beyond(self):
        for begin in (8, 9, 16, 1000, 2 ** 31, 2 ** 32, 2 ** 63 - 1, 2 ** 63, MOST - 1, MOST):
            for word in ([10], [17], [16, 17]):
                with self.subTest(begin=begin, word=word):
                    self.assertEqual(find(begin, word, self.PIECES), [-1])

    def test_no_byte_at_all(self):
        for pieces in ([], [[]], [[], [], []], [[] for k in range(16)]):
            for begin in (0, 1, MOST):
                for word in ([0], [0, 0]):
                    with self.subTest(pieces=pieces, begin=begin, word=word):
                        self.assertEqual(find(begin, word, pieces), [-1])

    def test_lowest_and_highest_bytes(self):
        pieces = [[255, 0], [255, 255], [0, 0]]
        self.assertEqual(find(0, [0], pieces), [1])
        self.assertEqual(find(0, [255, 255], pieces), [2])
        self.assertEqual(find(0, [0, 0], pieces), [4])

    def test_the_shortest_and_the_longest_word(self):
        self.assertEqual(find(0, [3], [[1, 2], [3]]), [2])
        word = list(range(64))
        self.assertEqual(find(0, word, [[9], list(range(30)), list(range(30, 64)), [9]]), [1])
        self.assertEqual(find(0, word[:63], [word]), [0])
        self.assertEqual(find(0, word, [word[:63]]), [-1])
        self.assertEqual(find(0, word, [word[:63], [64]]), [-1])

    def test_a_word_of_a_wrong_length(self):
        rows = ([], [[]], [[7] * 200], [[7] * 50, [], [7] * 60], [[k] for k in range(16)])
        for size in (0, 65, 66, 100, 65536, 66000):
            for pieces in rows:
                for begin in (0, 3, 1000, MOST):
                    with self.subTest(size=size, pieces=pieces, begin=begin):
                        self.assertEqual(find(begin, [7] * size, pieces), [-2])

    def test_sixteen_pieces(self):
        pieces = [[k] for k in range(16)]
        self.assertEqual(find(0, [14, 15], pieces), [14])
        self.assertEqual(find(0, list(range(16)), pieces), [0])

    def test_refused_pieces(self):
        refused = {
            "17 pieces": [[k] for k in range(17)],
            "17 empty pieces": [[] for k in range(17)],
            "a piece of 65537 bytes": [[7] * 65537],
            "a piece of 65537 bytes as the last": [[1], [], [7] * 65537],
        }
        for name, pieces in refused.items():
            for begin in (0, 5, MOST):
                for size in (0, 1, 2, 64, 65, 100):
                    with self.subTest(pieces=name, begin=begin, size=size):
                        self.assertEqual(find(begin, [7] * size, pieces), [-2])

    def test_the_longest_pieces(self):
        pieces = [[7] * 65536, [8] * 65536]
        self.assertEqual(find(0, [7, 8], pieces), [65535])
        self.assertEqual(find(65536, [7, 8], pieces), [-1])
        self.assertEqual(find(0, [8] * 64, pieces), [65536])
        self.assertEqual(find(131071, [8], pieces), [131071])
        self.assertEqual(find(0, [7] * 63 + [9], pieces), [-1])

    def test_every_small_row_and_word(self):
        words = [list(word) for size in (1, 2, 3) for word in itertools.product((0, 1), repeat=size)]
        for row in itertools.product((0, 1), repeat=5):
            pieces = [list(row[:1]), [], list(row[1:3]), list(row[3:])]
            for word in words:
                for begin in range(7):
                    with self.subTest(pieces=pieces, word=word, begin=begin):
                        self.assertEqual(find(begin, word, pieces), found_one_by_one(begin, word, pieces))

    def test_wherever_a_piece_ends_the_row_is_the_same(self):
        row = [3, 1, 4, 1, 5, 9]
        for first in range(7):
            for second in range(first, 7):
                pieces = [row[:first], row[first:second], row[second:]]
                with self.subTest(pieces=pieces):
                    self.assertEqual(find(0, [1, 5, 9], pieces), [3])
                    self.assertEqual(find(2, [1], pieces), [3])

    def test_what_is_handed_in_stays(self):
        pieces = copy.deepcopy(self.PIECES)
        inner = list(pieces)
        for word in ([12, 13], [9], [], [10] * 65):
            kept = list(word)
            find(0, word, pieces)
            with self.subTest(word=kept):
                self.assertEqual(word, kept)
                self.assertEqual(pieces, self.PIECES)
                self.assertTrue(all(one is other for one, other in zip(pieces, inner)))

    def test_one_whole_number_is_given_back(self):
        for begin, word in ((0, [10]), (0, [11]), (0, [9]), (0, []), (MOST, [10])):
            answer = find(begin, word, self.PIECES)
            with self.subTest(begin=begin, word=word):
                self.assertEqual([type(number) for number in answer], [int])

    def test_the_same_call_twice(self):
        self.assertEqual(find(0, [12, 13], self.PIECES), [2])
        self.assertEqual(find(0, [12, 13], self.PIECES), [2])

    def test_arguments_by_their_names(self):
        self.assertEqual(find(begin=1, word=[2, 3], pieces=[[1, 2], [3, 4]]), [1])


if __name__ == "__main__":
    unittest.main()
