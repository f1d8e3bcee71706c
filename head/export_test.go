package head

import "vigil/api"

// Forged writes points as Record does, those too that no Record would have.
func Forged(points []api.Point) []byte { return written(points) }

// ForgedNumber writes a number as records have it.
func ForgedNumber(n int) []byte { return appendNumber(nil, n) }

// ForgedPiece writes bytes as records have them, behind their size.
func ForgedPiece(raw []byte) []byte { return appendPiece(nil, raw) }
