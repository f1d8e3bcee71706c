package wal_test

import (
	"math"
	"slices"
	"strconv"
	"testing"

	"vigil/api"
	"vigil/disk"
	"vigil/wal"
)

// greatest is the greatest number that a name can bear and a segment have.
const greatest = math.MaxInt

// edges are numbers of names, and of ranks, from where a next one may be missing.
func edges() []int {
	return []int{1, 2, 3, 7, 1<<31 - 1, 1 << 31, 1 << 32, 1<<53 - 1, 1 << 53, 1<<62 - 1, 1 << 62, greatest - 2, greatest - 1, greatest}
}

// ranks are some of those that a file may claim.
func ranks() [][]int {
	out := [][]int{nil, {0}, {greatest, greatest}, {greatest, greatest - 1}, {greatest, 0}, {1, greatest}, slices.Repeat([]int{greatest}, 300)}
	for _, n := range edges() {
		out = append(out, []int{n})
	}
	return out
}

func segmentName(number int) string { return "wal/segment-" + strconv.Itoa(number) }

// goesOn does all calls on a Disk whatever it has, and asks that they do as they must with what Open told.
func goesOn(t *testing.T, d *disk.Disk) {
	t.Helper()
	l, got, e := wal.Open(d)
	want(t, e, api.OK)
	was := texts(got)
	wantContent(t, l, was)
	holds := func(records ...string) {
		t.Helper()
		content := append(slices.Clone(was), records...)
		wantContent(t, l, content)
		opened(t, d, content...)
		d.Crash(nil)
		l = opened(t, d, content...)
	}
	put(t, l, "a", "b")
	holds("a", "b")
	put(t, l, "c")
	d.Fault(0, 2)
	want(t, l.Append([]byte("refused")), api.ErrIO)
	put(t, l, "d")
	holds("a", "b", "c", "d")
	d.Fault(0, 1)
	want(t, l.Append([]byte("refused")), api.ErrIO)
	for range 3 {
		l = opened(t, d, append(slices.Clone(was), "a", "b", "c", "d")...)
	}
	was = nil
	want(t, l.Checkpoint(rows([]string{"x", ""})), api.OK)
	holds("x", "")
	put(t, l, "y")
	holds("x", "", "y")
	want(t, l.Checkpoint(nil), api.OK)
	holds()
}

// P6.1 to P6.5: one file of a right form, whatever number its name bears and whatever rank it claims.
func TestForeignSegment(t *testing.T) {
	for _, number := range edges() {
		for _, rank := range ranks() {
			for _, records := range [][]string{nil, {"x"}, {"x", "", "z"}} {
				d := disk.New(room)
				lay(d, segmentName(number), wal.Forged(number, rank, 0, 0, records...))
				opened(t, d, records...)
				goesOn(t, d)
			}
		}
	}
}

// P6.1 to P6.5: the same with a file of any bytes at the numbers next to it, and where a log was there ahead of it.
func TestForeignNeighbours(t *testing.T) {
	for _, number := range edges() {
		for _, rank := range ranks() {
			d := disk.New(room)
			put(t, opened(t, d), "mine")
			for _, other := range []int{number - 1, number, number + 1} {
				lay(d, segmentName(other), []byte("zz")) // one below the greatest number there is bears no right number
			}
			lay(d, segmentName(number), wal.Forged(number, rank, 0, 0, "x"))
			goesOn(t, d)
			d = disk.New(room)
			for _, n := range edges() {
				lay(d, segmentName(n), wal.Forged(n, rank, 0, 0, strconv.Itoa(n)))
			}
			opened(t, d, strconv.Itoa(greatest))
			goesOn(t, d)
		}
	}
}

// P6.1, P6.2: numbers that are greater than any segment's are nobody's.
func TestForeignNumbersBeyond(t *testing.T) {
	d := disk.New(room)
	for _, digits := range []string{"9223372036854775808", "18446744073709551615", "18446744073709551616", "18446744073709551617", "9999999999999999999999999999999999999999999999999999", "09223372036854775807", "-9223372036854775808", "-1"} {
		for _, number := range []int{1, greatest} {
			lay(d, "wal/segment-"+digits, wal.Forged(number, []int{greatest}, 0, 0, "x"))
			opened(t, d)
		}
	}
	goesOn(t, d)
}

// forgedDisk has a row of files, of a right form for the most part, that refer to one another anyhow.
func forgedDisk(n *numbers) *disk.Disk {
	d := disk.New(room)
	edges, ranks := edges(), ranks()
	some := func() int {
		if n.below(4) > 0 {
			return 1 + n.below(6)
		}
		return edges[n.below(len(edges))]
	}
	for range 1 + n.below(8) {
		number, ahead := some(), 0
		if n.below(3) > 0 {
			ahead = some()
		}
		rank := ranks[n.below(len(ranks))]
		if n.below(2) == 0 {
			rank = []int{n.below(9)}
		}
		records := []string{"p", "", "qq", "r"}[:n.below(5)]
		raw := wal.Forged(number, rank, ahead, n.below(4), records...)
		if n.below(5) == 0 {
			raw = raw[:n.below(len(raw)+1)]
		}
		lay(d, segmentName(number), raw)
	}
	return d
}

// P6.1 to P6.6: whatever a Disk has ahead of the first Open, from there on the log does all that it must.
func TestForeignAgainstModel(t *testing.T) {
	told, empty := 0, 0
	for seed := range 3000 {
		n := numbers(seed)
		d := forgedDisk(&n)
		r := &rowOfEvents{n: n, d: d}
		l, got, e := wal.Open(d)
		want(t, e, api.OK)
		r.l, r.m.content = l, texts(got)
		if len(got) > 0 {
			told++
		} else {
			empty++
		}
		for range 60 {
			r.step(t)
		}
		r.crash(t)
		d.SetCapacity(room)
		r.full = false
		goesOn(t, d)
	}
	if told < 500 || empty < 500 {
		t.Fatal(told, empty)
	}
}

// P6.2, P6.5: behind an Append that was OK all of the content is durable, also what was not yet when the Log was opened.
func TestForeignNotDurable(t *testing.T) {
	for _, number := range edges()[3:] {
		for struck := range 9 {
			d := disk.New(room)
			for i, at := range []int{2, number, 1} {
				ahead := []int{0, 2, number}[i]
				d.Create(segmentName(at))
				d.Append(segmentName(at), wal.Forged(at, []int{i}, ahead, 1, "x"))
			}
			l := opened(t, d, "x", "x", "x")
			d.Fault(struck, 1+struck%2)
			for l.Append([]byte("a")) != api.OK {
				wantContent(t, l, []string{"x", "x", "x"})
			}
			d.Crash(nil)
			opened(t, d, "x", "x", "x", "a")
		}
	}
}

// R1: Open of very many files that refer to one another, and to one that is not there, or all round, ends soon.
func TestForeignChains(t *testing.T) {
	const many = 4000
	for _, first := range []int{0, many + 1, many} {
		d := disk.New(1 << 24)
		for i := range many {
			number, ahead := i+1, i
			if i == 0 {
				ahead = first
			}
			d.Create(segmentName(number))
			d.Append(segmentName(number), wal.Forged(number, []int{number}, ahead, 1, "x"))
		}
		_, got, _ := wal.Open(d)
		if want := []int{many, 0}[min(first, 1)]; len(got) != want {
			t.Fatalf("%d records, want %d", len(got), want)
		}
		goesOn(t, d)
	}
}
