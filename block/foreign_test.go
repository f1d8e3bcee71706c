package block_test

import (
	"fmt"
	"maps"
	"slices"
	"strings"
	"testing"

	"vigil/api"
	"vigil/block"
	"vigil/disk"
)

// foreign are names that are no block's files, near to some that are.
func foreign() []string {
	return []string{
		"wal/segment-1", "wal/0", "wal/zz", "wal/block", "wal/block-whol", "wal/block-whole.", "wal/block-begun0", "wal/", "wal", "b1", "b1/", "b1/zz", "b1/block", "b1/block-", "b1/block-whole/",
		"b1/block-whole/block-whole", "b1/block-begun/block-begun", "b1/0", "b2/zz", "b2", "/block-whole", "block-whole", "/", ".", "-", "b-1/block-whole", "b_1/block-whole", "b.1/block-whole", "b1//block-whole",
		"a/b1/block-whole", "a/b1/block-begun", "b1block-whole", "b1-block-whole", strings.Repeat("b", 25) + "/block-whole", strings.Repeat("b", 25) + "/block-begun", strings.Repeat("b", 52) + "/block-whole", "/block-begun", "0/", "state",
	}
}

// P8.2, P8.4: files of other names are never touched, nor told, whatever they have and whether they are durable, and whatever becomes of the blocks beside them.
func TestForeignNames(t *testing.T) {
	_, own := only(t, func() *disk.Disk { d := disk.New(room); put(t, d, small("b1")); return d }(), "b1")
	for _, raw := range [][]byte{nil, {0}, []byte("some bytes"), own, own[:20]} {
		for stop := range 9 {
			d := disk.New(room)
			for _, name := range foreign() {
				lay(t, d, name, raw)
			}
			left := func() {
				t.Helper()
				for _, name := range foreign() {
					if got, e := d.Read(name); e != api.OK || string(got) != string(raw) {
						t.Fatal("touched", name, e)
					}
				}
			}
			wantList(t, d)
			put(t, d, small("b2"))
			d.Stop(stop)
			e := write(d, small("b1"))
			left()
			d.Crash([]int{stop, 7, 7, 7, 7})
			left()
			l := whole(t, d, small("b1"), small("b2"))
			if e == api.OK && len(l) != 2 {
				t.Fatal(l)
			}
			d.Fault(stop, 2)
			block.Remove(d, "b2")
			goesAlong(t, d)
			left()
		}
	}
}

// goesAlong writes and removes blocks on a disk that has other files too.
func goesAlong(t *testing.T, d *disk.Disk) {
	t.Helper()
	spend(d)
	for _, name := range block.List(d) {
		want(t, block.Remove(d, name), api.OK)
	}
	put(t, d, small("b1"), small("b2"), small("b3"))
	d.Crash(nil)
	wantList(t, d, "b1", "b2", "b3")
	for _, name := range []string{"b1", "b2", "b3"} {
		want(t, block.Remove(d, name), api.OK)
	}
	wantList(t, d)
}

// own are the names that a block's file has while it is laid down and later, as Write shows them.
func own(t *testing.T, name string) (begun, whole string) {
	t.Helper()
	d := disk.New(room)
	d.Stop(1)
	want(t, write(d, small(name)), api.ErrDead)
	begun, _ = only(t, d, name)
	d.Crash(nil)
	put(t, d, small(name))
	whole, _ = only(t, d, name)
	return begun, whole
}

// P8.1: a file of any bytes under the name that a block's has while it is laid down hinders no Write; that of another block stays, if no Write has made it.
func TestForeignBegun(t *testing.T) {
	begun, _ := own(t, "b1")
	other, _ := own(t, "wal")
	for _, raw := range []string{"", "x", "some bytes", "vigil", "vigil block b2\n", strings.Repeat("z", 2000)} {
		for _, durable := range []bool{false, true} {
			d := disk.New(room)
			for _, file := range []string{begun, other} {
				d.Create(file)
				d.Append(file, []byte(raw))
			}
			if durable {
				d.SyncDir()
			}
			wantList(t, d)
			put(t, d, small("b1"))
			wantList(t, d, "b1")
			want(t, block.Remove(d, "b1"), api.OK)
			if got, e := d.Read(other); raw != "vigil" && (e != api.OK || string(got) != raw) {
				t.Fatalf("%q is touched", other)
			}
			put(t, d, small("wal"), small("b1"))
			wantList(t, d, "b1", "wal")
		}
	}
}

// P8.1, P8.2: a file that has a block's name without being durable is none yet, and hinders no Write.
func TestForeignWhole(t *testing.T) {
	_, file := own(t, "b1")
	d := disk.New(room)
	put(t, d, large("b1"))
	_, raw := only(t, d, "b1")
	for _, raw := range [][]byte{nil, []byte("x"), raw} {
		d := disk.New(room)
		put(t, d, small("b2"))
		d.Create(file)
		d.Append(file, raw)
		wantList(t, d, "b2")
		refused(t, d, "b1", api.ErrNone)
		want(t, block.Remove(d, "b1"), api.ErrNone)
		put(t, d, small("b1"))
		d.Crash(nil)
		reads(t, d, small("b1"))
		reads(t, d, small("b2"))
	}
}

// P8.1: a Write that a dead disk left half way is not told where the disk goes on without a Crash and others write.
func TestDeadThenOn(t *testing.T) {
	for stop := range 7 {
		for i, next := range []func(d *disk.Disk) api.Errno{
			func(d *disk.Disk) api.Errno { return write(d, small("b2")) },
			func(d *disk.Disk) api.Errno { return block.Remove(d, "old") },
			func(d *disk.Disk) api.Errno { return write(d, large("b1")) },
		} {
			d := struck(t, stop, 0)
			if write(d, small("b1")) == api.OK {
				continue
			}
			d.Stop(1000)
			wantList(t, d, "old")
			want(t, next(d), api.OK)
			told := [][]string{{"b2", "old"}, nil, {"b1", "old"}}[i]
			wantList(t, d, told...)
			d.SyncDir()
			wantList(t, d, told...)
			d.Crash(nil)
			wantList(t, d, told...)
			used := 0
			for _, name := range told {
				_, raw := only(t, d, name)
				used += len(raw)
			}
			if d.Used() != used {
				t.Fatal("left behind", d.List(""))
			}
		}
	}
}

// P8.1 to P8.4: the model's rows of events, with files of other names beside the blocks.
func TestForeignAgainstModel(t *testing.T) {
	for seed := range 200 {
		r := newRow(seed + 1<<20)
		had := map[string]string{}
		for i, name := range foreign() {
			had[name] = fmt.Sprint(strings.Repeat("x", i), seed)
			lay(t, r.d, name, []byte(had[name]))
		}
		for range 80 {
			r.step(t)
		}
		r.crash(t)
		for _, name := range slices.Sorted(maps.Keys(had)) {
			if got, e := r.d.Read(name); e != api.OK || string(got) != had[name] {
				t.Fatal("touched", name, e)
			}
		}
	}
}
