package chunk_test

import (
	"bytes"
	"math"
	"slices"
	"strings"
	"testing"

	"vigil/api"
	"vigil/chunk"
)

// P5.1: the table of Runs.
func TestRuns(t *testing.T) {
	for _, x := range []struct {
		l    []api.Sample
		want []byte
	}{
		{nil, []byte{0, 0}},
		{[]api.Sample{at(1, 1)}, []byte{0, 1, 0, 0, 0, 0, 0, 0, 0, 1, 0x3f, 0xf0, 0, 0, 0, 0, 0, 0}},
		{[]api.Sample{at(-1, -2)}, []byte{0, 1, 255, 255, 255, 255, 255, 255, 255, 255, 0xc0, 0, 0, 0, 0, 0, 0, 0}},
		{[]api.Sample{at(0, 1), at(0, 2)}, []byte{0, 2, 0, 0, 0, 0, 0, 0, 0, 0, 0x3f, 0xf0, 0, 0, 0, 0, 0, 0, 0b01100001, 0b00101011, 0b11111111, 0b10000000}},
	} {
		if raw := encoded(t, x.l); !bytes.Equal(raw, x.want) {
			t.Errorf("Encode(%v): %x, not %x", x.l, raw, x.want)
		}
	}
	for _, x := range []struct {
		l    []api.Sample
		want int
	}{
		{nil, 16},
		{[]api.Sample{at(1, 1)}, 16 + 128},
		{[]api.Sample{at(1, 1), at(1001, 1), at(2001, 1)}, 16 + 128 + 17 + 2},
		{[]api.Sample{at(0, 1), at(64, 1), at(64, 1)}, 16 + 128 + 10 + 13},
		{[]api.Sample{at(0, 1), at(0, 2)}, 16 + 128 + 25},
	} {
		if got := chunk.Bits(x.l); got != x.want {
			t.Errorf("Bits(%v): %d, not %d", x.l, got, x.want)
		}
	}
}

// P5.1: the rows of the table of changes, at their ends.
func TestSteps(t *testing.T) {
	for _, x := range []struct {
		change int
		want   string
	}{
		{0, "0"},
		{-63, "10" + "0000000"}, {-1, "10" + "0111110"}, {1, "10" + "1000000"}, {64, "10" + "1111111"},
		{-64, "110" + "010111111"}, {65, "110" + "101000000"}, {-255, "110" + "000000000"}, {256, "110" + "111111111"},
		{-256, "1110" + "011011111111"}, {257, "1110" + "100100000000"}, {-2047, "1110" + "000000000000"}, {2048, "1110" + "111111111111"},
		{-2048, "1111" + strings.Repeat("1", 53) + strings.Repeat("0", 11)},
		{2049, "1111" + strings.Repeat("0", 52) + "100000000001"},
		{math.MaxInt, "1111" + "0" + strings.Repeat("1", 63)},
		{math.MinInt, "1111" + "1" + strings.Repeat("0", 63)},
	} {
		// The change stands behind a step of 7, so that it is not the step itself.
		l := []api.Sample{at(-7, 1), at(0, 1), at(7+x.change, 1)}
		want := filled(digits(3, 16) + digits(uint64(math.MaxUint64-6), 64) + digits(math.Float64bits(1), 64) + "10" + "1000110" + "0" + x.want + "0")
		if raw := encoded(t, l); !bytes.Equal(raw, want) {
			t.Errorf("a change of %d: %s, not %s", x.change, spelt(raw[18:]), spelt(want[18:]))
		}
		if got := chunk.Bits(l); got != 16+128+10+len(x.want)+1 {
			t.Errorf("Bits of a change of %d: %d", x.change, got)
		}
	}
	for change := -5000; change <= 5000; change++ {
		l := []api.Sample{at(3, 0), at(3+change, 0)}
		if raw := encoded(t, l); !bytes.Equal(raw, chunkByHand(l)) {
			t.Errorf("a change of %d: %s", change, spelt(raw))
		}
	}
}

// P5.1: what differs between values, by the window that is open.
func TestWindows(t *testing.T) {
	all := strings.Repeat("1", 64)
	for _, x := range []struct {
		why  string
		xs   []uint64 // what each value differs by from the one ahead
		want string
	}{
		{"none", []uint64{0, 0}, "0" + "0"},
		{"all bits", []uint64{math.MaxUint64}, "11" + "00000" + "111111" + all},
		{"the highest bit", []uint64{1 << 63}, "11" + "00000" + "000000" + "1"},
		{"the lowest bit: the lead is 31 at most", []uint64{1}, "11" + "11111" + "100000" + digits(1, 33)},
		{"a lead of 31", []uint64{1 << 32}, "11" + "11111" + "000000" + "1"},
		{"a lead of 32", []uint64{1 << 31}, "11" + "11111" + "000001" + "01"},
		{"the same window", []uint64{0b11 << 40, 0b11 << 40}, "11" + "10110" + "000001" + "11" + "10" + "11"},
		{"within the window", []uint64{0b111 << 40, 0b010 << 40}, "11" + "10101" + "000010" + "111" + "10" + "010"},
		{"the window outlasts what is alike", []uint64{0b111 << 40, 0, 0b010 << 40}, "11" + "10101" + "000010" + "111" + "0" + "10" + "010"},
		{"a narrow one within leaves the window", []uint64{0b111 << 40, 0b010 << 40, 0b101 << 40}, "11" + "10101" + "000010" + "111" + "10" + "010" + "10" + "101"},
		{"a lead too small", []uint64{0b1 << 40, 0b11 << 40}, "11" + "10111" + "000000" + "1" + "11" + "10110" + "000001" + "11"},
		{"a tail too small", []uint64{0b1 << 40, 0b11 << 39}, "11" + "10111" + "000000" + "1" + "11" + "10111" + "000001" + "11"},
		{"the last one that was opened counts", []uint64{0b11 << 40, 0b1 << 39, 0b1 << 39}, "11" + "10110" + "000001" + "11" + "11" + "11000" + "000000" + "1" + "10" + "1"},
		{"an older, wider one does not", []uint64{0b11 << 40, 0b1 << 39, 0b1 << 40}, "11" + "10110" + "000001" + "11" + "11" + "11000" + "000000" + "1" + "11" + "10111" + "000000" + "1"},
		{"both leads above 31", []uint64{1 << 20, 1 << 25}, "11" + "11111" + "001100" + digits(1, 13) + "10" + digits(1<<5, 13)},
	} {
		v := math.Float64bits(1.5)
		l := []api.Sample{at(0, of(v))}
		for _, differs := range x.xs {
			v ^= differs
			l = append(l, at(0, of(v)))
		}
		rows := byHand(l)[1:]
		for i, r := range rows {
			rows[i] = strings.TrimPrefix(r, "0") // the change of the step
		}
		if got := strings.Join(rows, ""); got != x.want {
			t.Fatalf("%s: by hand %s, not %s", x.why, got, x.want)
		}
		if raw := encoded(t, l); !bytes.Equal(raw, chunkByHand(l)) {
			t.Errorf("%s: %s, not %s", x.why, spelt(raw[18:]), spelt(chunkByHand(l)[18:]))
		}
		if got := chunk.Bits(l); got != 16+128+len(x.want)+len(x.xs) {
			t.Errorf("%s: Bits %d", x.why, got)
		}
	}
	ends := []int{0, 1, 7, 8, 9, 30, 31, 32, 33, 34, 51, 52, 62, 63}
	for _, high := range ends {
		for _, low := range ends {
			for _, high2 := range ends {
				for _, low2 := range ends {
					a := uint64(1)<<high | 1<<low
					l := []api.Sample{at(0, 0), at(0, of(a)), at(0, of(a^(1<<high2|1<<low2)))}
					if raw := encoded(t, l); !bytes.Equal(raw, chunkByHand(l)) {
						t.Fatalf("bits %d to %d, then %d to %d: %s", high, low, high2, low2, spelt(raw[18:]))
					}
				}
			}
		}
	}
}

// P5.1: as many as MaxChunk, and no more.
func TestFull(t *testing.T) {
	if api.MaxChunk != 120 {
		t.Fatal(api.MaxChunk)
	}
	d := draws(1)
	l := d.samples(121)
	w := chunk.New()
	for i, s := range l[:120] {
		if w.Count() != i || !bytes.Equal(w.Bytes(), chunkByHand(l[:i])) {
			t.Fatalf("%d samples: Count %d, Bytes %x", i, w.Count(), w.Bytes())
		}
		if e := w.Append(s.T, s.V); e != api.OK {
			t.Fatalf("Append %d: %d", i+1, e)
		}
	}
	for range 2 {
		if e := w.Append(l[120].T, l[120].V); e != api.ErrFull {
			t.Fatalf("Append 121: %d", e)
		}
		if w.Count() != 120 || !bytes.Equal(w.Bytes(), chunkByHand(l[:120])) {
			t.Fatal("a refused Append has changed the Writer")
		}
	}
	if raw := encoded(t, l[:120]); !bytes.Equal(raw, w.Bytes()) {
		t.Fatal("Encode of 120 is not what a Writer of them has")
	}
	if got := chunk.Bits(l[:120]); got != 16+len(strings.Join(byHand(l[:120]), "")) {
		t.Fatal("Bits of 120", got)
	}
	if raw, e := chunk.Encode(l); raw != nil || e != api.ErrMany {
		t.Fatalf("Encode of 121: %d, %d bytes", e, len(raw))
	}
	if got := chunk.Bits(l); got != 0 {
		t.Fatal("Bits of 121", got)
	}
}

// P5.1, R4: a Writer knows nothing of another.
func TestWritersApart(t *testing.T) {
	a, b := chunk.New(), chunk.New()
	if a == b || a.Count() != 0 || !bytes.Equal(a.Bytes(), []byte{0, 0}) {
		t.Fatal("New is not empty")
	}
	a.Append(5, 1)
	b.Append(7, 2)
	a.Append(6, 3)
	if !bytes.Equal(a.Bytes(), chunkByHand([]api.Sample{at(5, 1), at(6, 3)})) || !bytes.Equal(b.Bytes(), chunkByHand([]api.Sample{at(7, 2)})) {
		t.Fatal("Writers are mixed up")
	}
}

// P5.1, R2: Bytes twice are two copies; what is handed in is not changed.
func TestCopies(t *testing.T) {
	w := chunk.New()
	w.Append(1, 1)
	w.Append(2, 2)
	first, second := w.Bytes(), w.Bytes()
	for _, raw := range [][]byte{first[:cap(first)], second[:cap(second)]} {
		for i := range raw {
			raw[i] = 0xaa
		}
		if !bytes.Equal(w.Bytes(), chunkByHand([]api.Sample{at(1, 1), at(2, 2)})) {
			t.Fatal("Bytes is no copy")
		}
	}
	for i := range second {
		second[i] = 0x55
	}
	if slices.Contains(first, 0x55) {
		t.Fatal("two copies share memory")
	}
	w.Append(3, 3)
	if !bytes.Equal(w.Bytes(), chunkByHand([]api.Sample{at(1, 1), at(2, 2), at(3, 3)})) {
		t.Fatal("a copy that was changed has changed the Writer")
	}

	l := []api.Sample{at(1, 1), at(2, 2), at(9, 9), at(9, 9)}
	was := slices.Clone(l)
	chunk.Encode(l[:2])
	chunk.Bits(l[:2])
	if !alike(l, was) {
		t.Fatal("Encode or Bits has changed what it was handed")
	}
}

// P5.1, P5.3: rows of samples that change little and much, against those by hand.
func TestDrawn(t *testing.T) {
	d := draws(2)
	for n := range 400 {
		l := d.samples(n % 121)
		raw := encoded(t, l)
		if !bytes.Equal(raw, chunkByHand(l)) {
			t.Fatalf("%d: Encode of %v: %x, not %x", n, l, raw, chunkByHand(l))
		}
		if got := chunk.Bits(l); got != 16+len(strings.Join(byHand(l), "")) || len(raw) != (got+7)/8 {
			t.Fatalf("%d: Bits %d, %d bytes", n, got, len(raw))
		}
		if got, e := chunk.Decode(raw); e != api.OK || !alike(got, l) {
			t.Fatalf("%d: Decode: %v, %d", n, got, e)
		}
	}
}
