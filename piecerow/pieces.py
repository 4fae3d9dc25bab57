"""Calls on a row of bytes that is handed in as pieces, in order."""

MOST_PIECES = 16
MOST_BYTES = 65536


def is_refused(pieces):
    """Whether there are too many pieces, or one of them is too long."""
    if len(pieces) > MOST_PIECES:
        return True
    for piece in pieces:
        if len(piece) > MOST_BYTES:
            return True
    return False


def row_of(pieces):
    """The bytes of all pieces as one new list."""
    row = []
    for piece in pieces:
        row.extend(piece)
    return row


def length(pieces):
    """[how many bytes the row has], or [-2]."""
    if is_refused(pieces):
        return [-2]
    total = 0
    for piece in pieces:
        total = total + len(piece)
    return [total]


def take(begin, n, pieces):
    """[how many bytes, then the bytes from place begin on, at most n], or [-2]."""
    if is_refused(pieces):
        return [-2]
    row = row_of(pieces)
    # begin and n may be far beyond any row, so both ends are brought into it first.
    stop = min(begin + n, len(row))
    start = min(begin, stop)
    taken = row[start:stop]
    return [len(taken)] + taken
