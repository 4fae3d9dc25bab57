"""What holds of every call: the refusals, and how a call treats what it is handed."""
import contextlib
import copy
import io
import unittest

from piecerow.pieces import compare, find, length, move, put, sum_of, take

MOST = 18446744073709551615


def refuse_change(self, *args, **kwargs):
    raise AssertionError("what was handed in is changed")


class Fixed(list):
    """A list that fails the test at any change, even at one that is undone later."""
    append = extend = insert = pop = remove = clear = sort = reverse = refuse_change
    __setitem__ = __delitem__ = __iadd__ = __imul__ = refuse_change


def take_with(begin, n):
    return lambda pieces: take(begin, n, pieces)


def put_with(at, given):
    return lambda rooms: put(at, Fixed(given), rooms)


def move_with(begin, to, n):
    return lambda rooms: move(begin, to, n, rooms)


def find_with(begin, word):
    return lambda pieces: find(begin, Fixed(word), pieces)


def compare_with(k):
    return lambda pieces: compare(k, pieces)


# The tables below tell what is refused of one row, so compare stands here with all pieces in one of its two.
CALLS = {
    "length": length,
    "take within the row": take_with(1, 3),
    "take all": take_with(0, MOST),
    "take none": take_with(0, 0),
    "take none, beyond the row": take_with(MOST, 0),
    "take beyond the row": take_with(MOST, MOST),
    "put within the row": put_with(1, [101, 102, 103]),
    "put the longest": put_with(0, [9] * 66000),
    "put none": put_with(0, []),
    "put none, beyond the row": put_with(MOST, []),
    "put beyond the row": put_with(MOST, [1, 2]),
    "move back": move_with(2, 1, 3),
    "move on": move_with(1, 2, 3),
    "move all": move_with(0, 0, MOST),
    "move none": move_with(0, 1, 0),
    "move from beyond the row": move_with(MOST, 0, 1),
    "move to beyond the row": move_with(0, MOST, 1),
    "find within the row": find_with(0, [2, 3]),
    "find the longest": find_with(0, [7] * 64),
    "find what is not there": find_with(0, [200]),
    "find beyond the row": find_with(MOST, [1]),
    "compare, all in the first row": compare_with(MOST),
    "compare, all in the second row": compare_with(0),
    "sum_of": sum_of,
}

REFUSED = {
    "17 pieces": [[k] for k in range(17)],
    "17 empty pieces": [[] for k in range(17)],
    "17 pieces, one with bytes": [[] for k in range(16)] + [[1, 2, 3]],
    "20 pieces": [[k, k] for k in range(20)],
    "40 pieces": [[k] for k in range(40)],
    "a piece of 65537 bytes": [[7] * 65537],
    "a piece of 66000 bytes": [[7] * 66000],
    "a too long piece first": [[7] * 65537, [1], []],
    "a too long piece last": [[], [1], [7] * 65537],
    "a too long piece as the 16th": [[1] for k in range(15)] + [[7] * 65537],
    "too many and too long": [[1] for k in range(16)] + [[7] * 65537],
}

ANSWERED = {
    "no piece": [],
    "16 pieces": [[k, k + 1] for k in range(16)],
    "16 empty pieces": [[] for k in range(16)],
    "a piece of 65536 bytes": [[7] * 65536],
    "several pieces of 65536 bytes": [[7] * 65536, [], [8] * 65536],
    "one piece": [[1, 2, 3, 4, 5]],
    "empty pieces between": [[], [1, 2], [], [3], [4, 5], []],
}


class EveryCallTest(unittest.TestCase):
    def each(self, check, *tables):
        for name, call in CALLS.items():
            for table in tables:
                for row_name, pieces in table.items():
                    with self.subTest(call=name, pieces=row_name):
                        check(call, pieces)

    def test_refused_with_minus_two_alone(self):
        def check(call, pieces):
            self.assertEqual(call(pieces), [-2])
        self.each(check, REFUSED)

    def test_answered_up_to_the_bounds(self):
        def check(call, pieces):
            self.assertGreaterEqual(call(pieces)[0], -1)
        self.each(check, ANSWERED)

    def test_a_list_of_whole_numbers_is_given_back(self):
        def check(call, pieces):
            answer = call(pieces)
            self.assertIs(type(answer), list)
            self.assertEqual({type(number) for number in answer}, {int})
        self.each(check, REFUSED, ANSWERED)

    def test_what_is_handed_in_stays(self):
        def check(call, pieces):
            before = copy.deepcopy(pieces)
            call(pieces)
            self.assertTrue(pieces == before)
        self.each(check, REFUSED, ANSWERED)

    def test_what_is_handed_in_is_not_changed_for_a_while(self):
        def check(call, pieces):
            call(Fixed([Fixed(piece) for piece in pieces]))
        self.each(check, REFUSED, ANSWERED)

    def test_the_same_call_twice(self):
        def check(call, pieces):
            self.assertTrue(call(pieces) == call(pieces))
        self.each(check, REFUSED, ANSWERED)

    def test_the_answer_is_a_list_of_its_own(self):
        def check(call, pieces):
            before = copy.deepcopy(pieces)
            answer = call(pieces)
            kept = list(answer)
            answer[0] = 1000
            answer.append(1000)
            self.assertTrue(pieces == before)
            self.assertTrue(call(pieces) == kept)
        self.each(check, REFUSED, ANSWERED)

    def test_calls_between_leave_no_trace(self):
        pieces = ANSWERED["empty pieces between"]
        first = {name: call(pieces) for name, call in CALLS.items()}
        self.each(lambda call, others: call(others), REFUSED, ANSWERED)
        again = {name: call(pieces) for name, call in CALLS.items()}
        self.assertEqual(again, first)

    def test_pieces_changed_by_the_caller_are_seen_anew(self):
        pieces = [[1, 2], [3]]
        self.assertEqual(length(pieces), [3])
        self.assertEqual(take(0, 9, pieces), [3, 1, 2, 3])
        self.assertEqual(put(1, [7], pieces), [1, 1, 7, 3])
        self.assertEqual(move(0, 1, 2, pieces), [2, 1, 1, 2])
        self.assertEqual(find(0, [3], pieces), [2])
        self.assertEqual(compare(1, [[1, 2]] + pieces), [-1])
        self.assertEqual(sum_of(pieces), [1026])
        pieces[0].append(9)
        self.assertEqual(length(pieces), [4])
        self.assertEqual(take(0, 9, pieces), [4, 1, 2, 9, 3])
        self.assertEqual(put(1, [7], pieces), [1, 1, 7, 9, 3])
        self.assertEqual(move(0, 1, 2, pieces), [2, 1, 1, 2, 3])
        self.assertEqual(find(0, [3], pieces), [3])
        self.assertEqual(compare(1, [[1, 2, 4]] + pieces), [-1])
        self.assertEqual(sum_of(pieces), [2565])

    def test_nothing_is_printed(self):
        out, err = io.StringIO(), io.StringIO()
        with contextlib.redirect_stdout(out), contextlib.redirect_stderr(err):
            self.each(lambda call, pieces: call(pieces), REFUSED, ANSWERED)
        self.assertEqual(out.getvalue() + err.getvalue(), "")


if __name__ == "__main__":
    unittest.main()
