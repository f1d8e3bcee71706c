// Package disk is layer 1: see shared/doc/01-disk.md.
package disk

import (
	"bytes"

	"vigil/api"
)

// half is the kind of fault that lets the first half of an Append through.
const half = 2

// never stands for a Stop that was not asked for.
const never = -1

// file can outlive its name: a Crash may bring the name back.
type file struct {
	bytes   []byte
	durable int
}

// Disk is files that can fail and be lost.
type Disk struct {
	capacity int
	used     int // kept, so that an Append need not go through all files
	ops      int
	names    directory
	durable  directory
	pending  []change
	faults   map[int]int // kinds, by the number of the operation that is struck
	stop     int         // how many operations are left, or never
}

// New makes an empty one.
func New(capacity int) *Disk {
	return &Disk{
		capacity: max(capacity, 0),
		names:    directory{},
		durable:  directory{},
		faults:   map[int]int{},
		stop:     never,
	}
}

// begin counts an operation and says what refuses it, whatever it is; torn: half of an Append goes through.
func (d *Disk) begin() (e api.Errno, torn bool) {
	kind, struck := d.faults[d.ops]
	delete(d.faults, d.ops)
	d.ops++
	if d.stop == 0 {
		return api.ErrDead, false
	}
	if d.stop > 0 {
		d.stop--
	}
	if struck {
		return api.ErrIO, kind == half
	}
	return api.OK, false
}

func rightByte(c byte) bool {
	return 'a' <= c && c <= 'z' || '0' <= c && c <= '9' || c == '.' || c == '/' || c == '-' || c == '_'
}

func rightName(name string) bool {
	if len(name) < 1 || len(name) > api.MaxFile {
		return false
	}
	for i := range len(name) {
		if !rightByte(name[i]) {
			return false
		}
	}
	return true
}

// find refuses in the order in which the operations and Read do.
func (d *Disk) find(name string) (*file, api.Errno) {
	if !rightName(name) {
		return nil, api.ErrName
	}
	f := d.names[name]
	if f == nil {
		return nil, api.ErrNone
	}
	return f, api.OK
}

// Create makes an empty file.
func (d *Disk) Create(name string) api.Errno {
	if e, _ := d.begin(); e != api.OK {
		return e
	}
	switch _, e := d.find(name); e {
	case api.ErrName:
		return e
	case api.OK:
		return api.ErrThere
	}
	d.apply(change{name: name, file: &file{}})
	return api.OK
}

// Append puts bytes at a file's end.
func (d *Disk) Append(name string, b []byte) api.Errno {
	e, torn := d.begin()
	if e != api.OK && !torn {
		return e
	}
	f, refusal := d.findRoom(name, len(b))
	if torn {
		if refusal == api.OK {
			d.put(f, b[:len(b)/2])
		}
		return e
	}
	if refusal == api.OK {
		d.put(f, b)
	}
	return refusal
}

// findRoom asks for room only where there is something to put: a capacity that was lowered may be below what is used.
func (d *Disk) findRoom(name string, n int) (*file, api.Errno) {
	f, e := d.find(name)
	if e == api.OK && n > 0 && n > d.capacity-d.used {
		return nil, api.ErrFull
	}
	return f, e
}

func (d *Disk) put(f *file, b []byte) {
	f.bytes = append(f.bytes, b...)
	d.used += len(b)
}

// Sync makes a file's bytes durable.
func (d *Disk) Sync(name string) api.Errno {
	if e, _ := d.begin(); e != api.OK {
		return e
	}
	f, e := d.find(name)
	if e != api.OK {
		return e
	}
	f.durable = len(f.bytes)
	return api.OK
}

// Rename gives a file another name.
func (d *Disk) Rename(old, name string) api.Errno {
	if e, _ := d.begin(); e != api.OK {
		return e
	}
	if !rightName(old) || !rightName(name) {
		return api.ErrName
	}
	f, e := d.find(old)
	if e != api.OK {
		return e
	}
	if old == name {
		return api.OK
	}
	if lost := d.names[name]; lost != nil {
		d.used -= len(lost.bytes)
	}
	d.apply(change{old: old, name: name, file: f})
	return api.OK
}

// Remove takes a name away.
func (d *Disk) Remove(name string) api.Errno {
	if e, _ := d.begin(); e != api.OK {
		return e
	}
	f, e := d.find(name)
	if e != api.OK {
		return e
	}
	d.used -= len(f.bytes)
	d.apply(change{old: name})
	return api.OK
}

// SyncDir makes the directory durable.
func (d *Disk) SyncDir() api.Errno {
	if e, _ := d.begin(); e != api.OK {
		return e
	}
	d.settle(len(d.pending))
	return api.OK
}

// Read is a file's bytes.
func (d *Disk) Read(name string) ([]byte, api.Errno) {
	f, e := d.find(name)
	if e != api.OK {
		return nil, e
	}
	return bytes.Clone(f.bytes), api.OK
}

// List is the names that begin so.
func (d *Disk) List(prefix string) []string { return d.names.rising(prefix) }

// Used is how many bytes there are.
func (d *Disk) Used() int { return d.used }

// Ops is how many operations there were.
func (d *Disk) Ops() int { return d.ops }

// SetCapacity says how many bytes there may be.
func (d *Disk) SetCapacity(n int) { d.capacity = max(n, 0) }

// Fault lets an operation fail.
func (d *Disk) Fault(after, kind int) {
	at := d.ops + max(after, 0)
	if at < d.ops {
		return // beyond all numbers: no operation comes to be the one that it strikes
	}
	if _, laid := d.faults[at]; !laid {
		d.faults[at] = kind
	}
}

// Stop lets all operations fail.
func (d *Disk) Stop(after int) { d.stop = max(after, 0) }

// Durable is the names that are durable.
func (d *Disk) Durable() []string { return d.durable.rising("") }
