"""A row of bytes in pieces; the functions are in piecerow.pieces."""
