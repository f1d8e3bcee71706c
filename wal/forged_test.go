package wal

import (
	"math"
	"slices"
	"testing"

	"vigil/api"
	"vigil/disk"
)

// P6.1, R1: files whose sums are right, but which no Log would have made, are passed by, and those of the log beside them still count.
func TestForgedOpenings(t *testing.T) {
	number := func(n int) []byte { return appendNumber(nil, n) }
	behind := func(ahead, count int) []byte {
		return segment{rank: rank{9}, ahead: place{ahead, count}, records: [][]byte{[]byte("x")}}.opening()
	}
	for why, payload := range map[string][]byte{
		"nothing":                             nil,
		"a rank alone":                        {1, 9},
		"a rank cut short":                    {2, 9},
		"a rank of a huge length":             append(number(1<<62), 9, 0, 0),
		"a rank's length cut short":           {0x80},
		"one number alone":                    {1, 9, 0},
		"a number cut short":                  {1, 9, 0, 0x80},
		"a record longer than what is left":   {1, 9, 0, 0, 2, 'x'},
		"a record of a huge length":           append([]byte{1, 9, 0, 0}, number(1<<62)...),
		"a record's length cut short":         {1, 9, 0, 0, 1, 'x', 0x80},
		"behind itself":                       behind(7, 0),
		"behind one that is not there":        behind(5, 0),
		"behind one that comes to be":         behind(2, 1),
		"behind more than there is":           behind(1, 2),
		"behind very much more":               behind(1, 1<<62),
		"behind one of the greatest number":   behind(1<<63-1, 0),
		"behind one of its own rank":          {1, 1, 1, 1, 1, 'x'},
		"behind one of a greater rank":        {0, 1, 1, 1, 'x'},
		"behind one of a rank that is longer": {1, 0, 1, 1, 1, 'x'},
	} {
		d := disk.New(1000)
		l, _, _ := Open(d)
		if l.Append([]byte("a")) != api.OK {
			t.Fatal("Append")
		}
		d.Create(nameOf(7))
		d.Append(nameOf(7), frame(7, 0, payload))
		l, records, e := Open(d)
		if e != api.OK || len(records) != 1 || string(records[0]) != "a" {
			t.Fatalf("%s: %q, %d", why, records, e)
		}
		if l.Append([]byte("b")) != api.OK {
			t.Fatalf("%s: Append behind it", why)
		}
		for range 2 {
			_, records, _ = Open(d)
			if len(records) != 2 || string(records[1]) != "b" {
				t.Fatalf("%s: %q", why, records)
			}
			d.Crash(nil)
		}
	}
}

// P6.2: there is a rank beyond each, and the one behind that is another.
func TestRanks(t *testing.T) {
	const most = math.MaxInt
	for _, r := range []rank{nil, {0}, {1}, {127}, {1 << 31}, {1 << 62}, {most - 1}, {most}, {0, 0}, {most, 0}, {most, most - 1}, {most, most}, {1, most}, {most, most, most}, make(rank, 500)} {
		was := slices.Clone(r)
		for range 3 {
			next := r.next()
			if slices.Compare(next, r) <= 0 {
				t.Fatal(r, next)
			}
			got, rest, ok := cutRank(segment{rank: next}.opening())
			if !slices.Equal(got, next) || string(rest) != "\x00\x00" || !ok {
				t.Fatal(next, got, rest, ok)
			}
			r = next
		}
		if slices.Compare(r, was) <= 0 {
			t.Fatal(was, r)
		}
	}
}

// Numbers are read as they were written, and not at all if they are cut short.
func TestNumbers(t *testing.T) {
	for _, n := range []int{0, 1, 127, 128, 16383, 16384, 1<<31 - 1, 1 << 31, 1<<62 + 5, 1<<63 - 1} {
		raw := appendNumber([]byte("x"), n)
		got, rest, ok := cutNumber(append(raw, "behind"...)[1:])
		if got != n || string(rest) != "behind" || !ok {
			t.Fatal(n, got, rest, ok)
		}
		for end := 1; end < len(raw); end++ {
			if got, rest, ok := cutNumber(raw[1:end]); got != 0 || rest != nil || ok {
				t.Fatal(n, end, got, rest, ok)
			}
		}
	}
}

// The iterator over a file's bytes may be stopped, and ends with the last frame that is whole.
func TestFrames(t *testing.T) {
	var raw []byte
	ends := []int{0}
	for _, payload := range []string{"", "a", "bb"} {
		raw = append(raw, frame(3, len(raw), []byte(payload))...)
		ends = append(ends, len(raw))
	}
	for size := range len(raw) + 1 {
		whole := 0
		for _, end := range ends[1:] {
			if end <= size {
				whole++
			}
		}
		got := 0
		for range frames(3, raw[:size]) {
			got++
		}
		if got != whole {
			t.Fatalf("%d frames of %d bytes, want %d", got, size, whole)
		}
	}
	got := 0
	for range frames(3, raw) {
		if got++; got == 2 {
			break
		}
	}
	if got != 2 {
		t.Fatal(got)
	}
}
