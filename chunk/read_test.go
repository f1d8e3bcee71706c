package chunk_test

import (
	"bytes"
	"math"
	"slices"
	"strings"
	"testing"

	"vigil/api"
	"vigil/chunk"
)

// held tells whether All and Decode answer what they must of raw.
func held(t *testing.T, raw []byte) {
	t.Helper()
	if got, want := told(raw), readByHand(raw); !alike(got, want) {
		t.Fatalf("All of %x: %v, not %v", raw, got, want)
	}
	want, wantE := decodeByHand(raw)
	got, e := chunk.Decode(raw)
	if e != wantE || !alike(got, want) {
		t.Fatalf("Decode of %x: %v, %d, not %v, %d", raw, got, e, want, wantE)
	}
	if e != api.OK {
		return
	}
	if again, e := chunk.Encode(got); e != api.OK || !bytes.Equal(again, raw) {
		t.Fatalf("Encode of what Decode takes: %x, %d, not %x", again, e, raw)
	}
}

// P5.2: the table of Runs.
func TestDecodeRuns(t *testing.T) {
	one := encoded(t, []api.Sample{at(1, 1)})
	two := encoded(t, []api.Sample{at(1, 1), at(2, 1)})
	last := slices.Clone(two)
	last[len(last)-1] |= 1
	count := slices.Clone(two)
	count[1] = 1
	for _, x := range []struct {
		why string
		raw []byte
	}{
		{"nothing", nil},
		{"a byte", []byte{0}},
		{"a count alone", []byte{0, 1}},
		{"none, and a byte", []byte{0, 0, 0}},
		{"a byte more", append(slices.Clone(one), 0)},
		{"a byte more than two", append(slices.Clone(two), 0)},
		{"a bit of filling", last},
		{"a count too small", count},
		{"a count too great", append([]byte{0, 2}, one[2:]...)},
		{"a count greater than the filling holds", append([]byte{0, 6}, two[2:]...)},
		{"a count's higher byte", append([]byte{1, 2}, two[2:]...)},
	} {
		if l, e := chunk.Decode(x.raw); l != nil || e != api.ErrForm {
			t.Errorf("%s: %v, %d", x.why, l, e)
		}
		held(t, x.raw)
	}
	if l, e := chunk.Decode([]byte{0, 0}); len(l) != 0 || e != api.OK {
		t.Errorf("none: %v, %d", l, e)
	}
	if l, e := chunk.Decode(one); e != api.OK || !alike(l, []api.Sample{at(1, 1)}) {
		t.Errorf("one: %v, %d", l, e)
	}
}

// P5.2: bits that tell a sample, but not as Encode writes it; and bits that tell none.
func TestOtherForms(t *testing.T) {
	head := strings.Repeat("0", 128)
	wide := "11" + "00000" + "111111" + digits(1<<20, 64)
	for _, x := range []struct {
		why  string
		bits string // behind a first sample (0, 0)
		n    int    // how many are told
		ok   bool   // whether Decode takes them
	}{
		{"alike", "00", 2, true},
		{"a change of 0 in 7 bits", "10" + "0111111" + "0", 2, false},
		{"a change of 1 in 9 bits", "110" + "100000000" + "0", 2, false},
		{"a change of 1 in 12 bits", "1110" + "100000000000" + "0", 2, false},
		{"a change of 1 in 64 bits", "1111" + digits(1, 64) + "0", 2, false},
		{"a change of 1 in 7 bits", "10" + "1000000" + "0", 2, true},
		{"a window about nothing", "0" + "11" + "00011" + "000001" + "00", 2, false},
		{"a window with a 0 ahead", "0" + "11" + "00011" + "000001" + "01", 2, false},
		{"a window with a 0 behind", "0" + "11" + "00011" + "000001" + "10", 2, false},
		{"a window that fits", "0" + "11" + "00011" + "000001" + "11", 2, true},
		{"the widest lead, 0 behind it", "0" + "11" + "11111" + "000001" + "01", 2, true},
		{"no window", "0" + "10" + strings.Repeat("1", 64), 1, false},
		{"a window of 64 bits", "0" + "11" + "00000" + "111111" + "1" + digits(1, 63), 2, true},
		{"a window of 65 bits, lead and all", "0" + "11" + "00001" + "111111" + strings.Repeat("1", 70), 1, false},
		{"a window of 95 bits, lead and all", "0" + "11" + "11111" + "111111" + strings.Repeat("1", 99), 1, false},
		{"a window up to the last bit", "0" + "11" + "11111" + "100000" + "1" + digits(1, 32), 2, true},
		{"a window a bit behind the last", "0" + "11" + "11111" + "100001" + strings.Repeat("1", 40), 1, false},
		{"a wide window, then one within", "0" + wide + "0" + "10" + digits(1<<20, 64), 3, false},
		{"a window where the open one would do", "0" + "11" + "00011" + "000010" + "101" + "0" + "11" + "00100" + "000000" + "1", 3, false},
		{"the open window", "0" + "11" + "00011" + "000010" + "101" + "0" + "10" + "010", 3, true},
		{"the open window about nothing", "0" + "11" + "00011" + "000010" + "101" + "0" + "10" + "000", 3, false},
		{"behind a window that ends it", "0" + "11" + "11111" + "111111" + "0000", 1, false},
	} {
		raw := filled(digits(uint64(x.n), 16) + head + x.bits)
		if got := told(raw); len(got) != x.n {
			t.Errorf("%s: All tells %d", x.why, len(got))
		}
		if l, e := chunk.Decode(raw); (e == api.OK) != x.ok || len(l) > 0 != x.ok {
			t.Errorf("%s: Decode: %v, %d", x.why, l, e)
		}
		held(t, raw)
		held(t, filled(digits(uint64(x.n+1), 16)+head+x.bits))
	}
}

// P5.2, P5.3: all short rows of bits behind a first sample, under several counts.
func TestShortRows(t *testing.T) {
	head := digits(5, 64) + digits(math.Float64bits(1), 64)
	each(11, []string{"0", "1"}, func(bits string) {
		for _, count := range []uint64{2, 3, 5} {
			held(t, filled(digits(count, 16)+head+bits))
		}
	})
}

// P5.2, P5.3: all short rows of pieces, right and wrong ones.
func TestPieces(t *testing.T) {
	head := digits(math.MaxUint64, 64) + digits(math.Float64bits(-1), 64)
	pieces := []string{
		"0", "10" + "1000000", "10" + "0000000", "110" + "000000000", "1110" + "111111111111", "1111" + digits(1<<63, 64),
		"11" + "11111" + "000001" + "01", "11" + "00000" + "000000" + "1", "10", "1", "11" + "00011" + "000100" + "10101", "11" + "11110" + "111111" + digits(7, 20),
	}
	each(4, pieces, func(bits string) {
		if len(bits) > 0 {
			held(t, filled(digits(uint64(1+len(bits)%5), 16)+head+bits))
		}
	})
}

// P5.2: any bytes.
func TestAnyBytes(t *testing.T) {
	d := draws(3)
	for n := range 5000 {
		raw := make([]byte, n%90)
		for i := range raw {
			raw[i] = byte(d.next() >> (d.next() % 60))
		}
		held(t, raw)
		if len(raw) > 1 {
			raw[0], raw[1] = 0, raw[1]%130
			held(t, raw)
		}
	}
}

// P5.2, P5.3: a chunk in which one bit is turned.
func TestTurnedBits(t *testing.T) {
	d := draws(4)
	for range 8 {
		raw := encoded(t, d.samples(9))
		for i := range 8 * len(raw) {
			raw[i/8] ^= 0x80 >> (i % 8)
			held(t, raw)
			raw[i/8] ^= 0x80 >> (i % 8)
		}
		held(t, raw)
	}
}

// P5.3: what begins a chunk is told of any beginning that holds it.
func TestBeginnings(t *testing.T) {
	d := draws(5)
	for n := range 60 {
		l := d.samples(n)
		raw := encoded(t, l)
		rows := byHand(l)
		for k := range len(raw) + 1 {
			whole, size := 0, 16
			for whole < len(l) && size+len(rows[whole]) <= 8*k {
				size += len(rows[whole])
				whole++
			}
			if got := told(raw[:k:k]); !alike(got, l[:whole]) {
				t.Fatalf("%d bytes of %x: %d are told, not %d", k, raw, len(got), whole)
			}
			if k == len(raw) {
				continue
			}
			if got, e := chunk.Decode(raw[:k:k]); got != nil || e != api.ErrForm {
				t.Fatalf("Decode of %d bytes of %x: %v, %d", k, raw, got, e)
			}
		}
		if got := told(append(raw, 0xff, 0, 0x55)); !alike(got, l) {
			t.Fatalf("with bytes behind it: %v, not %v", got, l)
		}
	}
}

// P5.2: no more than the count says, which may be above MaxChunk, and no more than the bits hold.
func TestCounts(t *testing.T) {
	first := make([]byte, 16)
	for _, count := range []int{0, 1, 2, 120, 121, 255, 256, 1000, 65535} {
		raw := append([]byte{byte(count >> 8), byte(count)}, first...)
		raw = append(raw, make([]byte, 20000)...)
		if got := told(raw); len(got) != count {
			t.Errorf("a count of %d: %d are told", count, len(got))
		}
		if got := told(raw[:18+3]); len(got) != min(count, 1+12) {
			t.Errorf("a count of %d, bits of 13: %d are told", count, len(got))
		}
		full := raw[:18+(2*max(count-1, 0)+7)/8]
		if l, e := chunk.Decode(full[:2+min(count, 1)*(len(full)-2)]); (e == api.OK) != (count <= 120) || e == api.OK && len(l) != count {
			t.Errorf("Decode of a count of %d: %d, %d", count, len(l), e)
		}
	}
	// The longest samples there are, so that none is cut off.
	long := digits(200, 16) + digits(1, 128)
	for range 199 {
		long += "1111" + digits(1<<62, 64) + "11" + "00000" + "111111" + strings.Repeat("1", 64)
	}
	if got := told(filled(long + strings.Repeat("1", 99))); len(got) != 200 {
		t.Errorf("the longest samples: %d of 200 are told", len(got))
	}
}

// P5.3, Examples: floats of all kinds and times that fall or wrap round are kept bit by bit.
func TestBack(t *testing.T) {
	values := []float64{
		0, math.Copysign(0, -1), 1, -1, 1.5, math.Pi, math.Inf(1), math.Inf(-1), math.MaxFloat64, -math.MaxFloat64, 5e-324,
		math.NaN(), of(api.StaleBits), of(0x7ff0000000000001), of(0xfff8000000000000), of(math.MaxUint64), of(1<<63 | 1),
	}
	times := []int{0, 1, -1, 60000, math.MaxInt, math.MinInt, api.MaxTime, -api.MaxTime}
	for _, a := range values {
		for _, b := range values {
			for i, from := range times {
				l := []api.Sample{at(from, a), at(times[(i+3)%len(times)], b), at(times[(i+5)%len(times)], a), at(from, a)}
				raw := encoded(t, l)
				if got, e := chunk.Decode(raw); e != api.OK || !alike(got, l) {
					t.Fatalf("Decode of %v's chunk: %v, %d", l, got, e)
				}
				held(t, raw)
			}
		}
	}
	l := []api.Sample{at(9, 1), at(5, 2), at(5, 3), at(-4, of(api.StaleBits))}
	if got, e := chunk.Decode(encoded(t, l)); e != api.OK || !alike(got, l) {
		t.Fatalf("times that fall: %v, %d", got, e)
	}
}

// R1: an iterator may be ranged over many times, and stopped anywhere.
func TestStops(t *testing.T) {
	d := draws(6)
	l := d.samples(30)
	all := chunk.All(encoded(t, l))
	for stop := range len(l) + 1 {
		var got []api.Sample
		for at, v := range all {
			if len(got) == stop {
				break
			}
			got = append(got, api.Sample{T: at, V: v})
		}
		if !alike(got, l[:stop]) {
			t.Fatalf("stopped at %d: %v", stop, got)
		}
	}
	var outer int
	for range all {
		inner := 0
		for range all {
			inner++
		}
		if outer++; inner != len(l) {
			t.Fatalf("ranged over within itself: %d", inner)
		}
	}
	if outer != len(l) {
		t.Fatal("the outer range", outer)
	}
}

// R2: what is handed in is not changed and not kept.
func TestNotKept(t *testing.T) {
	d := draws(7)
	l := d.samples(20)
	whole := append(encoded(t, l), 1, 2, 3, 4)
	was := slices.Clone(whole)
	raw := whole[:len(whole)-4]
	all := chunk.All(raw)
	got, _ := chunk.Decode(raw)
	told(raw)
	if !bytes.Equal(whole, was) {
		t.Fatal("Decode or All has changed what it was handed")
	}
	for i := range whole {
		whole[i] = 0xff
	}
	if !alike(got, l) {
		t.Fatal("what Decode answered has changed")
	}
	got = nil
	for at, v := range all {
		got = append(got, api.Sample{T: at, V: v})
	}
	if !alike(got, l) {
		t.Fatal("All has kept what it was handed")
	}
}
