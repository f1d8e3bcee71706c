package wal_test

import (
	"bytes"
	"slices"
	"strings"
	"testing"

	"vigil/api"
	"vigil/disk"
	"vigil/wal"
)

// lay puts a file on a Disk, in the place of one that has the name.
func lay(d *disk.Disk, name string, raw []byte) {
	d.Remove(name)
	d.Create(name)
	d.Append(name, raw)
	d.Sync(name)
	d.SyncDir()
}

// written is a Disk with a log in several files, some calls of which were refused.
func written(t *testing.T) (*disk.Disk, []string) {
	t.Helper()
	d := disk.New(room)
	l := opened(t, d)
	want(t, l.Checkpoint(rows([]string{"x", ""})), api.OK)
	put(t, l, "a", "bb")
	l = opened(t, d, "x", "", "a", "bb")
	put(t, l, "ccc")
	d.Fault(0, 2)
	want(t, l.Append([]byte("refused")), api.ErrIO)
	put(t, l, "", "dddd")
	d.Fault(1, 1)
	want(t, l.Append([]byte("refused")), api.ErrIO)
	put(t, l, "e")
	return d, []string{"x", "", "a", "bb", "ccc", "", "dddd", "e"}
}

// P6.1, P6.6: files of any names and bytes are passed by; what is appended beside them is kept, and they are left as they are.
func TestStrangeFiles(t *testing.T) {
	names := []string{
		"wal/", "wal/zz", "wal/0", "wal/1", "wal/000000000001", "wal/log", "wal/segment", "wal/segment-", "wal/segment-0", "wal/segment-1", "wal/segment-2",
		"wal/segment-3", "wal/segment-5", "wal/segment-01", "wal/segment--1", "wal/segment-1.tmp", "wal/segment-9223372036854775807", "wal/segment-9223372036854775808",
		"wal/segment-99999999999999999999999999", "wal/segment-1/segment-2", "wal/" + strings.Repeat("9", 60),
	}
	pieces := [][]byte{
		nil, {0}, {1}, {0xff}, []byte("some bytes"), bytes.Repeat([]byte{0}, 100), bytes.Repeat([]byte{0xff}, 100), bytes.Repeat([]byte{0x80}, 100),
		bytes.Repeat([]byte{1}, 100), bytes.Repeat([]byte{2}, 100), append(bytes.Repeat([]byte{0x80}, 9), 1, 0, 0, 0, 0, 0), append(bytes.Repeat([]byte{0xff}, 9), 1, 0, 0, 0, 0, 0), {0x80, 0x80, 0x80, 0x80, 0x80, 0x80, 0x80, 0x80, 0x7f, 0, 0, 0, 0, 0}, {2, 0, 0, 0, 0, 0, 0},
	}
	n := numbers(1)
	for range 20 {
		raw := make([]byte, n.below(60))
		for i := range raw {
			raw[i] = byte(n.below(256))
		}
		pieces = append(pieces, raw)
	}
	for _, raw := range pieces {
		d := disk.New(room)
		for _, name := range names {
			lay(d, name, raw)
		}
		l := opened(t, d)
		put(t, l, "a")
		opened(t, d, "a")
		d.Fault(1, 2)
		want(t, l.Append([]byte("b")), api.ErrIO)
		put(t, l, "c")
		opened(t, d, "a", "c")
		d.Crash(nil)
		l = opened(t, d, "a", "c")
		put(t, l, "d")
		opened(t, d, "a", "c", "d")
		for _, name := range names {
			if got, e := d.Read(name); e != api.OK || !bytes.Equal(got, raw) {
				t.Fatalf("%s: %q, %d", name, got, e)
			}
		}
		want(t, l.Checkpoint(rows([]string{"x"})), api.OK)
		put(t, l, "y")
		d.Crash(nil)
		opened(t, d, "x", "y")
	}
}

// P6.1: files whose names no segment has are passed by without an operation.
func TestStrangeNames(t *testing.T) {
	ops := func(d *disk.Disk) int {
		before := d.Ops()
		l := opened(t, d)
		put(t, l, "a", "b")
		want(t, l.Checkpoint(rows([]string{"x"})), api.OK)
		put(t, l, "c")
		opened(t, d, "x", "c")
		return d.Ops() - before
	}
	d := disk.New(room)
	for _, name := range []string{"wal/segment-0", "wal/segment-01", "wal/segment-007", "wal/segment--3", "wal/segment-9a", "wal/segment-"} {
		lay(d, name, []byte("bytes"))
	}
	if got, least := ops(d), ops(disk.New(room)); got != least {
		t.Fatalf("%d operations, not %d", got, least)
	}
	if n := len(d.List("wal/")); n != 7 {
		t.Fatal(d.List("wal/"))
	}
}

// P6.1: the log's own files under other names do not count.
func TestCopies(t *testing.T) {
	d, content := written(t)
	for i, name := range d.List("wal/") {
		raw, _ := d.Read(name)
		lay(d, "wal/copy-"+string(rune('a'+i)), raw)
		for _, number := range []string{"0", "01", "20", "21", "22", "9223372036854775807"} {
			lay(d, "wal/segment-"+number, raw)
			opened(t, d, content...)
		}
	}
	l := opened(t, d, content...)
	put(t, l, "more")
	d.Crash(nil)
	opened(t, d, append(content, "more")...)
}

// P6.1: bytes behind a file's records that make none are passed by, and are in nobody's way.
func TestStrangeBytes(t *testing.T) {
	own, _ := written(t)
	var pieces [][]byte
	for _, name := range own.List("wal/") {
		raw, _ := own.Read(name)
		for from := range raw {
			pieces = append(pieces, raw[from:])
		}
	}
	pieces = append(pieces, []byte{0}, []byte{0xff}, []byte("garbage"), bytes.Repeat([]byte{0}, 50), bytes.Repeat([]byte{1}, 50), bytes.Repeat([]byte{0x80}, 50), bytes.Repeat([]byte{0xff}, 50))
	for _, raw := range pieces {
		d, content := written(t)
		for _, name := range d.List("wal/") {
			d.Append(name, raw)
		}
		l := opened(t, d, content...)
		put(t, l, "more", "and more")
		behind := append(slices.Clone(content), "more", "and more")
		wantContent(t, l, behind)
		opened(t, d, behind...)
		d.Crash(nil)
		opened(t, d, behind...)
	}
}

// beginning tells whether a content is all that another one begins with.
func beginning(records, content []string) bool {
	return len(records) <= len(content) && slices.Equal(records, content[:len(records)])
}

// P6.1, P6.6: whatever is cut or changed in one of its files, Open tells something, and Append goes on from there.
func TestSpoiledFiles(t *testing.T) {
	whole, content := written(t)
	var spoiled []func(*disk.Disk)
	for _, name := range whole.List("wal/") {
		raw, _ := whole.Read(name)
		spoiled = append(spoiled, func(d *disk.Disk) { d.Remove(name) })
		for i := range raw {
			spoiled = append(spoiled, func(d *disk.Disk) { lay(d, name, raw[:i]) })
			for _, bit := range []byte{0x01, 0x10, 0x80, 0xff} {
				changed := bytes.Clone(raw)
				changed[i] ^= bit
				spoiled = append(spoiled, func(d *disk.Disk) { lay(d, name, changed) })
			}
		}
	}
	for _, spoil := range spoiled {
		d, _ := written(t)
		spoil(d)
		l, got, e := wal.Open(d)
		want(t, e, api.OK)
		records := texts(got)
		if i := slices.Index(records, "refused"); i >= 0 && i == len(records)-1 {
			records = records[:i] // the file that says that it does not count is the one that is spoiled
		}
		if !beginning(records, content) {
			t.Fatalf("Open: %q", records)
		}
		wantContent(t, l, texts(got))
		put(t, l, "more")
		d.Crash(nil)
		opened(t, d, append(texts(got), "more")...)
	}
}
