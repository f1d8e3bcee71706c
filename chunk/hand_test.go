package chunk_test

import (
	"math"
	"slices"
	"strconv"
	"strings"
	"testing"

	"vigil/api"
	"vigil/chunk"
)

// at is a sample.
func at(t int, v float64) api.Sample { return api.Sample{T: t, V: v} }

// of is the float of those bits.
func of(b uint64) float64 { return math.Float64frombits(b) }

// alike tells whether two lists hold the same, bit by bit.
func alike(a, b []api.Sample) bool {
	return slices.EqualFunc(a, b, func(x, y api.Sample) bool {
		return x.T == y.T && math.Float64bits(x.V) == math.Float64bits(y.V)
	})
}

// told is what All tells of raw.
func told(raw []byte) []api.Sample {
	var l []api.Sample
	for t, v := range chunk.All(raw) {
		l = append(l, at(t, v))
	}
	return l
}

// encoded is the chunk of l, which must not be refused.
func encoded(t *testing.T, l []api.Sample) []byte {
	t.Helper()
	raw, e := chunk.Encode(l)
	if e != api.OK {
		t.Fatalf("Encode of %d samples: %d", len(l), e)
	}
	return raw
}

// digits is the lowest bits of v as a text of 0 and 1.
func digits(v uint64, width int) string {
	s := strconv.FormatUint(v, 2)
	if len(s) < width {
		s = strings.Repeat("0", width-len(s)) + s
	}
	return s[len(s)-width:]
}

// number is what a text of 0 and 1 says.
func number(s string) uint64 {
	v, _ := strconv.ParseUint(s, 2, 64)
	return v
}

// filled is the bytes of a text of 0 and 1, the last filled up with 0.
func filled(s string) []byte {
	var raw []byte
	for ; s != ""; s = s[min(8, len(s)):] {
		raw = append(raw, byte(number((s + "0000000")[:8])))
	}
	return raw
}

// spelt is the bytes as a text of 0 and 1.
func spelt(raw []byte) string {
	var s strings.Builder
	for _, b := range raw {
		s.WriteString(digits(uint64(b), 8))
	}
	return s.String()
}

// stepByHand is the table's row for a change of the step.
func stepByHand(dod int64) string {
	switch {
	case dod == 0:
		return "0"
	case -63 <= dod && dod <= 64:
		return "10" + digits(uint64(dod+63), 7)
	case -255 <= dod && dod <= 256:
		return "110" + digits(uint64(dod+255), 9)
	case -2047 <= dod && dod <= 2048:
		return "1110" + digits(uint64(dod+2047), 12)
	}
	return "1111" + digits(uint64(dod), 64)
}

// byHand is the bits of each sample of l, by the chapter's words over texts of 0 and 1.
func byHand(l []api.Sample) []string {
	var out []string
	delta, open, windowLead, windowTail := int64(0), false, 0, 0
	for i, s := range l {
		if i == 0 {
			out = append(out, digits(uint64(s.T), 64)+digits(math.Float64bits(s.V), 64))
			continue
		}
		step := int64(s.T) - int64(l[i-1].T)
		bits := stepByHand(step - delta)
		delta = step
		x := digits(math.Float64bits(s.V)^math.Float64bits(l[i-1].V), 64)
		if !strings.Contains(x, "1") {
			out = append(out, bits+"0")
			continue
		}
		lead := min(strings.Index(x, "1"), 31)
		tail := 63 - strings.LastIndex(x, "1")
		if open && lead >= windowLead && tail >= windowTail {
			bits += "10" + x[windowLead:64-windowTail]
		} else {
			bits += "11" + digits(uint64(lead), 5) + digits(uint64(64-lead-tail-1), 6) + x[lead:64-tail]
			open, windowLead, windowTail = true, lead, tail
		}
		out = append(out, bits)
	}
	return out
}

// chunkByHand is the bytes of l's chunk.
func chunkByHand(l []api.Sample) []byte {
	return filled(digits(uint64(len(l)), 16) + strings.Join(byHand(l), ""))
}

// hand reads a text of 0 and 1.
type hand struct {
	text string
	over bool // more was asked for than there is
}

func (h *hand) take(width int) string {
	if width > len(h.text) {
		h.over = true
		return strings.Repeat("0", width)
	}
	s := h.text[:width]
	h.text = h.text[width:]
	return s
}

// step reads the change of a step.
func (h *hand) step() uint64 {
	ones := 0
	for ones < 4 && h.take(1) == "1" {
		ones++
	}
	switch ones {
	case 1:
		return number(h.take(7)) - 63
	case 2:
		return number(h.take(9)) - 255
	case 3:
		return number(h.take(12)) - 2047
	case 4:
		return number(h.take(64))
	}
	return 0
}

// readByHand is what All must tell of raw, by the chapter's words.
func readByHand(raw []byte) []api.Sample {
	if len(raw) < 2 {
		return nil
	}
	h := &hand{text: spelt(raw[2:])}
	var l []api.Sample
	var t, delta, v uint64
	open, lead, size := false, 0, 0
	for len(l) < int(raw[0])*256+int(raw[1]) {
		if l == nil {
			t, v = number(h.take(64)), number(h.take(64))
		} else {
			delta += h.step()
			t += delta
			if h.take(1) == "1" {
				if h.take(1) == "1" {
					open, lead, size = true, int(number(h.take(5))), int(number(h.take(6)))+1
				}
				if !open || lead+size > 64 {
					return l
				}
				v ^= number(h.take(size)) << (64 - lead - size)
			}
		}
		if h.over {
			return l
		}
		l = append(l, at(int(t), of(v)))
	}
	return l
}

// decodeByHand is what Decode must answer.
func decodeByHand(raw []byte) ([]api.Sample, api.Errno) {
	l := readByHand(raw)
	if len(l) > api.MaxChunk || !slices.Equal(chunkByHand(l), raw) {
		return nil, api.ErrForm
	}
	return l, api.OK
}

// each hands f every row of n pieces or fewer, joined.
func each(n int, pieces []string, f func(string)) {
	var grow func(left int, s string)
	grow = func(left int, s string) {
		f(s)
		if left > 0 {
			for _, p := range pieces {
				grow(left-1, s+p)
			}
		}
	}
	grow(n, "")
}

// draws is a row of numbers without end that look like chance and are always the same.
type draws uint64

func (d *draws) next() uint64 {
	*d = *d*6364136223846793005 + 1442695040888963407
	x := uint64(*d)
	x ^= x >> 33
	x *= 0xff51afd7ed558ccd
	return x ^ x>>29
}

// samples draws so many, whose steps and values change little or much.
func (d *draws) samples(n int) []api.Sample {
	var l []api.Sample
	var t, step, v uint64
	for range n {
		step += uint64(int64(d.next()) >> (d.next() % 64))
		t += step
		v ^= d.next() >> (d.next() % 65) << (d.next() % 65)
		l = append(l, at(int(t), of(v)))
	}
	return l
}
