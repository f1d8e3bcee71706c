package wal

import (
	"slices"
	"strconv"
	"strings"

	"vigil/api"
	"vigil/disk"
)

// prefix begins the names of the log's files; a segment's number follows.
const prefix = "wal/segment-"

// place is where a content ends: behind so many records of a segment. Segments are numbered from 1 on; the place of the number 0 is ahead of all.
type place struct{ number, count int }

// segment is a file of the log: its records come behind those that end at the place ahead.
type segment struct {
	ahead   place
	records [][]byte
}

func nameOf(number int) string { return prefix + strconv.Itoa(number) }

// numbers is which segments a disk may have, by the names of its files, rising.
func numbers(d *disk.Disk) []int {
	var out []int
	for _, name := range d.List(prefix) {
		number, err := strconv.Atoi(strings.TrimPrefix(name, prefix))
		if err == nil && number > 0 && nameOf(number) == name {
			out = append(out, number)
		}
	}
	slices.Sort(out)
	return out
}

// opening is the bytes of a segment as it begins: in one frame, so that it is there whole, or not at all.
func (s segment) opening() []byte {
	raw := appendNumber(nil, s.ahead.number)
	raw = appendNumber(raw, s.ahead.count)
	for _, record := range s.records {
		raw = appendNumber(raw, len(record))
		raw = append(raw, record...)
	}
	return raw
}

// readOpening reads what opening wrote.
func readOpening(raw []byte) (segment, bool) {
	number, raw, okNumber := cutNumber(raw)
	count, raw, okCount := cutNumber(raw)
	s := segment{ahead: place{number, count}}
	for len(raw) > 0 {
		size, rest, ok := cutNumber(raw)
		if !ok || size > len(rest) {
			return segment{}, false
		}
		s.records = append(s.records, rest[:size:size])
		raw = rest[size:]
	}
	return s, okNumber && okCount
}

// load reads a segment as far as its bytes make whole records; false if it does not even begin as one.
func load(d *disk.Disk, number int) (segment, bool) {
	raw, e := d.Read(nameOf(number))
	if e != api.OK {
		return segment{}, false
	}
	var s segment
	opened := false
	for payload := range frames(number, raw) {
		if opened {
			s.records = append(s.records, payload)
		} else if s, opened = readOpening(payload); !opened {
			break
		}
	}
	// One that is ahead has a lesser number, so that going back ends.
	return s, opened && s.ahead.number < number
}

// trace goes back from a segment to the content's beginning: all records to its end; false if some of them are not there.
func trace(d *disk.Disk, s segment) ([][]byte, bool) {
	parts := [][][]byte{s.records}
	for s.ahead.number > 0 {
		kept := s.ahead.count
		var ok bool
		if s, ok = load(d, s.ahead.number); !ok || kept > len(s.records) {
			return nil, false
		}
		parts = append(parts, s.records[:kept])
	}
	slices.Reverse(parts)
	return slices.Concat(parts...), true
}
