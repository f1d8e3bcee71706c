package wal

import (
	"testing"

	"vigil/api"
	"vigil/disk"
)

// P6.1, R1: files whose sums are right, but which no Log would have made, are passed by, and those of the log behind them still count.
func TestForgedOpenings(t *testing.T) {
	number := func(n int) []byte { return appendNumber(nil, n) }
	for why, payload := range map[string][]byte{
		"nothing":                           nil,
		"one number alone":                  {0},
		"a number cut short":                {0, 0x80},
		"a record longer than what is left": {0, 0, 2, 'x'},
		"a record of a huge length":         append([]byte{0, 0}, number(1<<62)...),
		"a record's length cut short":       {0, 0, 1, 'x', 0x80},
		"behind itself":                     append(number(7), 0, 1, 'x'),
		"behind one that comes later":       append(number(8), 0, 1, 'x'),
		"behind one that is not there":      {5, 0, 1, 'x'},
		"behind more than there is":         {1, 2, 1, 'x'},
		"behind very much more":             append(append(number(1), number(1<<62)...), 1, 'x'),
	} {
		d := disk.New(1000)
		l, _, _ := Open(d)
		if l.Append([]byte("a")) != api.OK {
			t.Fatal("Append")
		}
		d.Create(nameOf(7))
		d.Append(nameOf(7), frame(7, 0, payload))
		l, records, e := Open(d)
		if e != api.OK || len(records) != 1 || string(records[0]) != "a" {
			t.Fatalf("%s: %q, %d", why, records, e)
		}
		if l.Append([]byte("b")) != api.OK {
			t.Fatalf("%s: Append behind it", why)
		}
		_, records, _ = Open(d)
		if len(records) != 2 || string(records[1]) != "b" {
			t.Fatalf("%s: %q", why, records)
		}
	}
}

// Numbers are read as they were written, and not at all if they are cut short.
func TestNumbers(t *testing.T) {
	for _, n := range []int{0, 1, 127, 128, 16383, 16384, 1<<31 - 1, 1 << 31, 1<<62 + 5, 1<<63 - 1} {
		raw := appendNumber([]byte("x"), n)
		got, rest, ok := cutNumber(append(raw, "behind"...)[1:])
		if got != n || string(rest) != "behind" || !ok {
			t.Fatal(n, got, rest, ok)
		}
		for end := 1; end < len(raw); end++ {
			if got, rest, ok := cutNumber(raw[1:end]); got != 0 || rest != nil || ok {
				t.Fatal(n, end, got, rest, ok)
			}
		}
	}
}

// The iterator over a file's bytes may be stopped, and ends with the last frame that is whole.
func TestFrames(t *testing.T) {
	var raw []byte
	ends := []int{0}
	for _, payload := range []string{"", "a", "bb"} {
		raw = append(raw, frame(3, len(raw), []byte(payload))...)
		ends = append(ends, len(raw))
	}
	for size := range len(raw) + 1 {
		whole := 0
		for _, end := range ends[1:] {
			if end <= size {
				whole++
			}
		}
		got := 0
		for range frames(3, raw[:size]) {
			got++
		}
		if got != whole {
			t.Fatalf("%d frames of %d bytes, want %d", got, size, whole)
		}
	}
	got := 0
	for range frames(3, raw) {
		if got++; got == 2 {
			break
		}
	}
	if got != 2 {
		t.Fatal(got)
	}
}
