package wal

import (
	"math"
	"slices"
	"strconv"
	"strings"

	"vigil/api"
	"vigil/disk"
)

// prefix begins the names of the log's files; a segment's number follows.
const prefix = "wal/segment-"

// place is where a content ends: behind so many records of a segment. Segments are numbered from 1 on; the place of the number 0 is ahead of all.
type place struct{ number, count int }

// rank says which segment is the newest: the greatest one, as slices.Compare has it. It is a row of numbers, and told in the segment's bytes, so that there is one beyond any that a disk has; numbers in names come to an end.
type rank []int

// segment is a file of the log: its records come behind those that end at the place ahead. Its number is nothing but its name's.
type segment struct {
	number  int
	rank    rank
	ahead   place
	records [][]byte
}

func nameOf(number int) string { return prefix + strconv.Itoa(number) }

// next is a rank beyond this one.
func (r rank) next() rank {
	out := slices.Clone(r)
	last := len(out) - 1
	if last < 0 || out[last] == math.MaxInt {
		return append(out, 1)
	}
	out[last]++
	return out
}

// numbers is which segments a disk may have, by the names of its files, rising.
func numbers(d *disk.Disk) []int {
	var out []int
	for _, name := range d.List(prefix) {
		number, err := strconv.Atoi(strings.TrimPrefix(name, prefix))
		if err == nil && number > 0 && nameOf(number) == name {
			out = append(out, number)
		}
	}
	slices.Sort(out)
	return out
}

// opening is the bytes of a segment as it begins: in one frame, so that it is there whole, or not at all.
func (s segment) opening() []byte {
	raw := appendNumber(nil, len(s.rank))
	for _, n := range s.rank {
		raw = appendNumber(raw, n)
	}
	raw = appendNumber(raw, s.ahead.number)
	raw = appendNumber(raw, s.ahead.count)
	for _, record := range s.records {
		raw = appendNumber(raw, len(record))
		raw = append(raw, record...)
	}
	return raw
}

// readOpening reads what opening wrote.
func readOpening(raw []byte) (segment, bool) {
	r, raw, okRank := cutRank(raw)
	number, raw, okNumber := cutNumber(raw)
	count, raw, okCount := cutNumber(raw)
	s := segment{rank: r, ahead: place{number, count}}
	for len(raw) > 0 {
		size, rest, ok := cutNumber(raw)
		if !ok || size > len(rest) {
			return segment{}, false
		}
		s.records = append(s.records, rest[:size:size])
		raw = rest[size:]
	}
	return s, okRank && okNumber && okCount
}

// cutRank reads a rank, and tells what stands behind it.
func cutRank(raw []byte) (rank, []byte, bool) {
	size, raw, ok := cutNumber(raw)
	var r rank
	for range size {
		var n int
		if n, raw, ok = cutNumber(raw); !ok {
			return nil, nil, false
		}
		r = append(r, n)
	}
	return r, raw, ok
}

// load reads a segment as far as its bytes make whole records; false if it does not even begin as one.
func load(d *disk.Disk, number int) (segment, bool) {
	raw, e := d.Read(nameOf(number))
	if e != api.OK {
		return segment{}, false
	}
	var s segment
	opened := false
	for payload := range frames(number, raw) {
		if opened {
			s.records = append(s.records, payload)
		} else if s, opened = readOpening(payload); !opened {
			break
		}
	}
	s.number = number
	return s, opened
}

// rising is all segments of a disk, the newest last. Only files that no log made can be of one rank; the greater number is taken for the newer one then.
func rising(d *disk.Disk) []segment {
	var out []segment
	for _, number := range numbers(d) {
		if s, ok := load(d, number); ok {
			out = append(out, s)
		}
	}
	slices.SortStableFunc(out, func(a, b segment) int { return slices.Compare(a.rank, b.rank) })
	return out
}

// follows tells whether a segment comes behind that one, and all is there that it says to be ahead. The rank is lesser there, so that going back ends.
func (s segment) follows(ahead segment) bool {
	return s.ahead.number == ahead.number && s.ahead.count <= len(ahead.records) && slices.Compare(ahead.rank, s.rank) < 0
}

// trace goes back from a segment to the content's beginning: those that lie ahead of it, the first one first, each with those of its records that count; none if some of them are not there.
func trace(d *disk.Disk, behind segment) []segment {
	var out []segment
	for behind.ahead.number > 0 {
		s, ok := load(d, behind.ahead.number)
		if !ok || !behind.follows(s) {
			return nil
		}
		s.records = s.records[:behind.ahead.count]
		out = append(out, s)
		behind = s
	}
	slices.Reverse(out)
	return out
}

// content is the records of segments, one behind the other.
func content(segments []segment) [][]byte {
	var out [][]byte
	for _, s := range segments {
		out = append(out, s.records...)
	}
	return out
}
