package head

import (
	"bytes"
	"math"
	"slices"

	"vigil/api"
	"vigil/chunk"
	"vigil/labels"
)

// A number takes 7 bits of each of its bytes, the lowest first; the highest bit says that more follow.
const (
	numberBits = 7
	numberMore = 1 << numberBits
	// numberMost is how many bytes a number has at most, so that it fits an int.
	numberMost = 9
)

// Record writes a batch.
func (h *Head) Record(batch []api.Point) []byte { return written(h.planned(batch)) }

// Replay takes a written batch.
func (h *Head) Replay(raw []byte) api.Errno {
	points := read(raw)
	// A Head that has nothing and keeps everything takes whatever some Head may have taken, and there is one way to write it.
	if !bytes.Equal(New(math.MaxInt).Record(points), raw) {
		return api.ErrForm
	}
	h.Commit(points)
	return api.OK
}

// written is points as bytes, none if there are none: how many sets they have, and these, in the order in which they are met; how many points there are, and the number of each one's set; then their samples in chunks, full ones but for the last.
func written(points []api.Point) []byte {
	if len(points) == 0 {
		return nil
	}
	numbers := map[string]int{}
	var sets, owners []byte
	for _, p := range points {
		set := labels.Bytes(p.Labels)
		n, ok := numbers[string(set)]
		if !ok {
			n = len(numbers)
			numbers[string(set)] = n
			sets = appendPiece(sets, set)
		}
		owners = appendNumber(owners, n)
	}
	raw := append(appendNumber(nil, len(numbers)), sets...)
	raw = append(appendNumber(raw, len(points)), owners...)
	for lot := range slices.Chunk(points, api.MaxChunk) {
		raw = appendPiece(raw, packed(lot))
	}
	return raw
}

// packed is the chunk of the points' samples.
func packed(points []api.Point) []byte {
	w := chunk.New()
	for _, p := range points {
		w.Append(p.T, p.V)
	}
	return w.Bytes()
}

// read is the points that written wrote; of other bytes it is none, or points that are written otherwise.
func read(raw []byte) []api.Point {
	r := reader{rest: raw}
	var sets [][]api.Label
	for n := r.number(); len(sets) < n; {
		set, e := labels.Read(r.piece())
		if e != api.OK {
			return nil
		}
		sets = append(sets, set)
	}
	var points []api.Point
	for n := r.number(); len(points) < n; {
		i := r.number()
		if i < 0 || i >= len(sets) {
			return nil
		}
		points = append(points, api.Point{Labels: sets[i]})
	}
	for lot := range slices.Chunk(points, api.MaxChunk) {
		l, e := chunk.Decode(r.piece())
		if e != api.OK || len(l) != len(lot) {
			return nil
		}
		for i, x := range l {
			lot[i].T, lot[i].V = x.T, x.V
		}
	}
	return points
}

// reader reads numbers and pieces of bytes, one behind the other.
type reader struct{ rest []byte }

// number reads what appendNumber wrote; of other bytes it is -1.
func (r *reader) number() int {
	n := 0
	for i, b := range r.rest[:min(len(r.rest), numberMost)] {
		n |= int(b&(numberMore-1)) << (i * numberBits)
		if b < numberMore {
			r.rest = r.rest[i+1:]
			return n
		}
	}
	return -1
}

// piece reads what appendPiece wrote; of other bytes it is none.
func (r *reader) piece() []byte {
	size := r.number()
	if size < 0 || size > len(r.rest) {
		return nil
	}
	out := r.rest[:size]
	r.rest = r.rest[size:]
	return out
}

// appendNumber writes a number that is not below 0.
func appendNumber(raw []byte, n int) []byte {
	for ; n >= numberMore; n >>= numberBits {
		raw = append(raw, byte(n)|numberMore)
	}
	return append(raw, byte(n))
}

// appendPiece writes bytes behind their size.
func appendPiece(raw, piece []byte) []byte {
	return append(appendNumber(raw, len(piece)), piece...)
}
