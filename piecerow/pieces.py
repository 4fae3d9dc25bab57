"""Calls on a row of bytes that is handed in as pieces, in order."""

MOST_PIECES = 16
MOST_BYTES = 65536
LONGEST_WORD = 64
LOWEST_16_BITS = 65535


def is_refused(pieces):
    """Whether there are too many pieces, or one of them is too long."""
    if len(pieces) > MOST_PIECES:
        return True
    for piece in pieces:
        if len(piece) > MOST_BYTES:
            return True
    return False


def row_of(pieces):
    """The bytes of all pieces as one new list."""
    row = []
    for piece in pieces:
        row.extend(piece)
    return row


def stretch_of(begin, n, row):
    """The bytes of row from place begin on, n of them or as many as there are, as a new list."""
    # begin and n may be far beyond any row, so both ends are brought into it first.
    stop = min(begin + n, len(row))
    start = min(begin, stop)
    return row[start:stop]


def put_into(at, given, row):
    """[how many of given have room from place at on, then row's bytes with these in their places]."""
    start = min(at, len(row))
    count = min(len(given), len(row) - start)
    return [count] + row[:start] + given[:count] + row[start + count:]


def place_of(begin, word, row):
    """The first place in row, not before begin, where word stands, or -1."""
    size = len(word)
    for place in range(begin, len(row) - size + 1):
        if row[place:place + size] == word:
            return place
    return -1


def order_of(first, second):
    """0 if both rows are alike, -1 if the first comes before, else 1."""
    if first == second:
        return 0
    # Lists are ordered as rows are here: by the first place that differs, or else the shorter before.
    if first < second:
        return -1
    return 1


def folded(total):
    """A number of at most 16 bits: what stands above these is added to them as long as there is such."""
    while total > LOWEST_16_BITS:
        total = (total >> 16) + (total & LOWEST_16_BITS)
    return total


def length(pieces):
    """[how many bytes the row has], or [-2]."""
    if is_refused(pieces):
        return [-2]
    total = 0
    for piece in pieces:
        total = total + len(piece)
    return [total]


def take(begin, n, pieces):
    """[how many bytes, then the bytes from place begin on, at most n], or [-2]."""
    if is_refused(pieces):
        return [-2]
    taken = stretch_of(begin, n, row_of(pieces))
    return [len(taken)] + taken


def put(at, given, rooms):
    """[how many bytes were put from place at on, then all the rooms' bytes], or [-2]."""
    if is_refused(rooms):
        return [-2]
    return put_into(at, given, row_of(rooms))


def move(begin, to, n, rooms):
    """[how many bytes were moved, then all the rooms' bytes], or [-2]."""
    if is_refused(rooms):
        return [-2]
    row = row_of(rooms)
    # A copy, so that the bytes count as they were even where the two stretches share places.
    aside = stretch_of(begin, n, row)
    return put_into(to, aside, row)


def find(begin, word, pieces):
    """[the first place, not before begin, where word stands in the row], [-1] if there's none, or [-2]."""
    if is_refused(pieces) or not 1 <= len(word) <= LONGEST_WORD:
        return [-2]
    return [place_of(begin, word, row_of(pieces))]


def compare(k, pieces):
    """[0, -1 or 1: how the row of the first k pieces stands to the row of the others], or [-2]."""
    cut = min(k, len(pieces))
    first = pieces[:cut]
    second = pieces[cut:]
    if is_refused(first) or is_refused(second):
        return [-2]
    return [order_of(row_of(first), row_of(second))]


def sum_of(pieces):
    """[the row's pairs of bytes added up, with what goes beyond 16 bits added in again], or [-2]."""
    if is_refused(pieces):
        return [-2]
    row = row_of(pieces)
    # The 0 that a last byte alone is paired with adds nothing, so it need not be there.
    return [folded(256 * sum(row[0::2]) + sum(row[1::2]))]
