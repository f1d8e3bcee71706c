package block

import (
	"slices"
	"strings"

	"vigil/api"
	"vigil/disk"
)

// The ends of the names of a block's file: while it is laid down, and when the block has got its name.
const (
	begunEnd = "/block-begun"
	wholeEnd = "/block-whole"
)

// owner is the block whose file has that end; false if it is none's.
func owner(file, end string) (string, bool) {
	name, ok := strings.CutSuffix(file, end)
	return name, ok && rightName(name)
}

// among tells whether a name is one of some that rise.
func among(names []string, name string) bool {
	_, ok := slices.BinarySearch(names, name)
	return ok
}

// there tells whether List tells a block.
func there(d *disk.Disk, name string) bool { return among(List(d), name) }

// lay puts a block's bytes on a disk, and gives it its name. The last SyncDir is the stroke by which it gets that: ahead of it the name is not durable, and List does not tell it, even where a disk that has stopped lets nobody take it back.
func lay(d *disk.Disk, name string, raw []byte) api.Errno {
	begun, whole := name+begunEnd, name+wholeEnd
	if among(d.Durable(), whole) {
		// A refused Remove has left the name durable: what gets it now would be told at once.
		if e := d.SyncDir(); e != api.OK {
			return e
		}
	}
	e := d.Create(begun)
	if e == api.OK {
		e = d.Append(begun, raw)
	}
	if e == api.OK {
		e = d.Sync(begun)
	}
	if e == api.OK {
		e = d.Rename(begun, whole)
	}
	if e == api.OK {
		e = d.SyncDir()
	}
	return e
}

// leftovers is the files of Writes that came to no good end: of that block all, of others those that begin as theirs do, since who else made such a file may want it.
func leftovers(d *disk.Disk, name string) []string {
	durable := d.Durable()
	var out []string
	for _, file := range d.List("") {
		of, ok := owner(file, begunEnd)
		if !ok {
			of, ok = owner(file, wholeEnd)
			ok = ok && !among(durable, file)
		}
		if ok && (of == name || beginsAs(d, file, of)) {
			out = append(out, file)
		}
	}
	return out
}

// beginsAs tells whether a file has bytes, and these are the first of that block's, as far as they tell whose they are.
func beginsAs(d *disk.Disk, file, name string) bool {
	raw, _ := d.Read(file)
	raw = raw[:min(len(raw), len(title(name)))]
	return len(raw) > 0 && strings.HasPrefix(title(name), string(raw))
}

// sweep removes all leftovers: they take room, and a SyncDir would give those their names that lack nothing else.
func sweep(d *disk.Disk, name string) api.Errno {
	for _, file := range leftovers(d, name) {
		if e := d.Remove(file); e != api.OK {
			return e
		}
	}
	return api.OK
}

// takeBack does the same behind a refusal, for good, as far as the disk lets it.
func takeBack(d *disk.Disk, name string) {
	files := leftovers(d, name)
	for _, file := range files {
		insist(func() api.Errno { return d.Remove(file) })
	}
	if len(files) > 0 {
		insist(d.SyncDir)
	}
}

// insist does an operation again as long as faults strike it. Each of them is spent thereby, so that this ends.
func insist(operation func() api.Errno) {
	for operation() == api.ErrIO {
	}
}
