package chunk

import (
	"bytes"
	"iter"
	"math"
	"slices"

	"vigil/api"
)

// Decode unpacks a chunk.
func Decode(raw []byte) ([]api.Sample, api.Errno) {
	var l []api.Sample
	for t, v := range each(raw) {
		l = append(l, api.Sample{T: t, V: v})
	}
	// Samples have one form alone, so whatever is wrong in raw shows here.
	if form, e := Encode(l); e != api.OK || !bytes.Equal(form, raw) {
		return nil, api.ErrForm
	}
	return l, api.OK
}

// All tells a chunk's samples.
func All(raw []byte) iter.Seq2[int, float64] {
	count, _ := parts(raw)
	// The iterator may outlive the call, and what is handed in is not kept: but no more is copied than that many samples can take.
	most := countBytes + (count*mostBits+7)/8
	return each(slices.Clone(raw[:min(len(raw), most)]))
}

// each tells the samples of raw itself, for use within a call.
func each(raw []byte) iter.Seq2[int, float64] {
	return func(yield func(int, float64) bool) {
		count, row := parts(raw)
		u := unpacker{row: bitReader{bytes: row}}
		for i := range count {
			if !u.next(i == 0) || !yield(int(u.last.time), math.Float64frombits(u.last.value)) {
				return
			}
		}
	}
}

// parts is how many samples raw says that it has, and the bytes of their bits.
func parts(raw []byte) (int, []byte) {
	if len(raw) < countBytes {
		return 0, nil
	}
	return int(raw[0])<<8 | int(raw[1]), raw[countBytes:]
}

// unpacker is how far a chunk's bits have been read.
type unpacker struct {
	row  bitReader
	last ahead
}

// next reads a sample; false if the bits do not hold one.
func (u *unpacker) next(first bool) bool {
	if first {
		// Where there is no room for the time, there is none for the value.
		t, _ := u.row.take(wordBits)
		v, ok := u.row.take(wordBits)
		u.last.time, u.last.value = t, v
		return ok
	}
	return u.takeTime() && u.takeValue()
}

// takeTime reads the change of the step, and goes that step on.
func (u *unpacker) takeTime() bool {
	change, ok := u.takeChange()
	u.last.delta += change
	u.last.time += u.last.delta
	return ok
}

// takeChange reads the change of a step: the ones ahead of it say how many bits it has.
func (u *unpacker) takeChange() (uint64, bool) {
	for i := range len(steps) + 1 {
		more, ok := u.row.take(1)
		if !ok {
			return 0, false
		}
		if more == 1 {
			continue
		}
		if i == 0 {
			return 0, true
		}
		width := steps[i-1]
		n, ok := u.row.take(width)
		return n - bias(width), ok
	}
	return u.row.take(wordBits)
}

// takeValue reads what differs from the value ahead, and changes that.
func (u *unpacker) takeValue() bool {
	differs, ok := u.row.take(1)
	if !ok || differs == 0 {
		return ok
	}
	opens, ok := u.row.take(1)
	if !ok || opens == 1 && !u.takeWindow() || u.last.window.size == 0 {
		return false
	}
	x, ok := u.row.take(u.last.window.size)
	u.last.value ^= x << u.last.window.tail()
	return ok
}

// takeWindow reads the window that is opened; false if it were wider than a value.
func (u *unpacker) takeWindow() bool {
	// Where there is no room for the lead, there is none for the size, which is longer.
	lead, _ := u.row.take(leadBits)
	size, ok := u.row.take(sizeBits)
	u.last.window = window{lead: int(lead), size: int(size) + 1}
	return ok && u.last.window.tail() >= 0
}
