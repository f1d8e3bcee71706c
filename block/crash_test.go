package block_test

import (
	"slices"
	"testing"

	"vigil/api"
	"vigil/block"
	"vigil/disk"
	"vigil/wal"
)

// spend lets the faults strike that wait for one of the next operations.
func spend(d *disk.Disk) {
	for range 60 {
		d.SyncDir()
	}
}

// whole asks that each block that is told opens as it was written, and tells which are.
func whole(t *testing.T, d *disk.Disk, packs ...pack) []string {
	t.Helper()
	l := block.List(d)
	for _, name := range l {
		i := slices.IndexFunc(packs, func(p pack) bool { return p.meta.Name == name })
		if i < 0 {
			t.Fatal("told, but never written", name)
		}
		reads(t, d, packs[i])
	}
	return l
}

// crashes calls f with each of the ways in which a Crash may cut: so many of the pending changes, and so many bytes of each file.
func crashes(changes, bytes int, f func(cuts []int)) {
	for c := range changes + 1 {
		for b := range bytes + 1 {
			f([]int{c, b, b, b})
		}
	}
}

// struck is a disk with a block, whose operations end after so many, or meet these faults.
func struck(t *testing.T, stop int, kind int, faults ...int) *disk.Disk {
	t.Helper()
	d := disk.New(room)
	put(t, d, small("old"))
	for _, after := range faults {
		d.Fault(after, kind)
	}
	if stop >= 0 {
		d.Stop(stop)
	}
	return d
}

// P8.1, P8.4: Write, a Stop at any operation, and any Crash behind it.
func TestWriteStops(t *testing.T) {
	old, p := small("old"), small("b1")
	size := struck(t, -1, 0).Used()
	outcomes := map[int]int{}
	for stop := range 9 {
		crashes(4, size, func(cuts []int) {
			d := struck(t, stop, 0)
			e := write(d, p)
			if e != api.OK && e != api.ErrDead {
				t.Fatal(e)
			}
			if there := slices.Contains(block.List(d), "b1"); there != (e == api.OK) {
				t.Fatal("stopped at", stop, "answered", e, "told", there)
			}
			if e != api.OK {
				refused(t, d, "b1", api.ErrNone)
			}
			d.Crash(cuts)
			l := whole(t, d, old, p)
			if !slices.Contains(l, "old") || e == api.OK && len(l) < 2 {
				t.Fatal("lost", stop, cuts, l)
			}
			outcomes[len(l)*10+int(e)]++
			goesOn(t, d, old, p)
		})
	}
	// Both outcomes of a refused Write are met: else the cuts were too short to see anything.
	if outcomes[20+int(api.ErrDead)] == 0 || outcomes[10+int(api.ErrDead)] == 0 || outcomes[20] == 0 || len(outcomes) != 3 {
		t.Fatal(outcomes)
	}
}

// goesOn asks that whatever a crash left is in nobody's way: all that is told may be removed, and all written, durably.
func goesOn(t *testing.T, d *disk.Disk, packs ...pack) {
	t.Helper()
	for _, p := range packs {
		if slices.Contains(block.List(d), p.meta.Name) {
			want(t, write(d, p), api.ErrThere)
			want(t, block.Remove(d, p.meta.Name), api.OK)
		}
		put(t, d, p)
	}
	d.Crash(nil)
	if l := whole(t, d, packs...); len(l) != len(packs) {
		t.Fatal(l)
	}
	for _, p := range packs {
		if files := d.List(p.meta.Name + "/"); len(files) != 1 {
			t.Fatal("left behind", files)
		}
	}
}

// P8.2, P8.4: Remove, a Stop at any operation, and any Crash behind it.
func TestRemoveStops(t *testing.T) {
	old, p := small("old"), small("b1")
	outcomes := map[int]int{}
	for stop := range 5 {
		crashes(3, 3, func(cuts []int) {
			d := struck(t, -1, 0)
			put(t, d, p)
			d.Stop(stop)
			e := block.Remove(d, "b1")
			if e != api.OK && e != api.ErrDead {
				t.Fatal(e)
			}
			told := len(whole(t, d, old, p)) == 2
			if e == api.OK && told {
				t.Fatal("removed, but told")
			}
			d.Crash(cuts)
			l := whole(t, d, old, p)
			if !slices.Contains(l, "old") || e == api.OK && len(l) > 1 {
				t.Fatal(stop, cuts, l)
			}
			outcomes[len(l)*10+int(e)]++
			goesOn(t, d, old, p)
		})
	}
	if outcomes[20+int(api.ErrDead)] == 0 || outcomes[10+int(api.ErrDead)] == 0 || outcomes[10] == 0 || len(outcomes) != 3 {
		t.Fatal(outcomes)
	}
}

// faultRows are rows of operations that faults strike: one, some far apart, and many close together.
func faultRows() [][]int {
	var out [][]int
	for after := range 10 {
		out = append(out, []int{after})
		for gap := 1; gap < 6; gap++ {
			out = append(out, []int{after, after + gap}, []int{after, after + gap, after + gap + 1})
		}
		var row []int
		for i := range 12 {
			row = append(row, after+i)
			out = append(out, slices.Clone(row))
		}
	}
	return out
}

// P8.1, P8.4: Write with faults at any operations: what is refused is not told, neither behind others' operations nor behind a Crash, and leaves nothing.
func TestWriteFaults(t *testing.T) {
	old, p := small("old"), small("b1")
	seen := map[api.Errno]int{}
	for _, faults := range faultRows() {
		for kind := 1; kind <= 3; kind++ {
			for _, cuts := range [][]int{nil, {1, 9}, {2, 900, 900, 900}, {3, 5, 5, 5}, {-1, -1, -1, -1}} {
				d := struck(t, -1, kind, faults...)
				used, ops := d.Used(), d.Ops()
				e := write(d, p)
				if hit := d.Ops()-ops > faults[0]; e != api.OK && e != api.ErrIO || hit != (e == api.ErrIO) {
					t.Fatal(faults, e)
				}
				seen[e]++
				names := []string{"b1", "old"}
				if e != api.OK {
					names = []string{"old"}
					if d.Used() != used || len(d.List("b1/")) > 0 {
						t.Fatal("left behind", faults, d.List("b1/"))
					}
				}
				wantList(t, d, names...)
				if len(faults)%2 == 0 {
					spend(d)
					wantList(t, d, names...)
				}
				d.Crash(cuts)
				wantList(t, d, names...)
				whole(t, d, old, p)
				goesOn(t, d, old, p)
			}
		}
	}
	if seen[api.OK] == 0 || seen[api.ErrIO] == 0 {
		t.Fatal(seen)
	}
}

// P8.2, P8.4: Remove with faults at any operations: what List tells then, it tells behind a Crash.
func TestRemoveFaults(t *testing.T) {
	old, p := small("old"), small("b1")
	outcomes := map[int]int{}
	for _, faults := range faultRows() {
		for _, cuts := range [][]int{nil, {1}, {2}, {-1}} {
			d := struck(t, -1, 0)
			put(t, d, p)
			for _, after := range faults {
				d.Fault(after, 1)
			}
			ops := d.Ops()
			e := block.Remove(d, "b1")
			if hit := d.Ops()-ops > faults[0]; e != api.OK && e != api.ErrIO || hit != (e == api.ErrIO) {
				t.Fatal(faults, e)
			}
			l := whole(t, d, old, p)
			if e == api.OK && len(l) != 1 {
				t.Fatal("removed, but told")
			}
			outcomes[len(l)*10+int(e)]++
			d.Crash(cuts)
			if behind := whole(t, d, old, p); !slices.Equal(behind, l) {
				t.Fatal(faults, cuts, l, behind)
			}
			goesOn(t, d, old, p)
		}
	}
	if len(outcomes) != 3 {
		t.Fatal(outcomes)
	}
}

// P8.1: a disk that is full refuses, and nothing is left; where there is just room, it is taken.
func TestFull(t *testing.T) {
	p := small("b1")
	d := disk.New(room)
	put(t, d, p)
	size := d.Used()
	for capacity := range size + 2 {
		d := disk.New(capacity)
		e := write(d, p)
		if capacity >= size {
			want(t, e, api.OK)
			reads(t, d, p)
			continue
		}
		want(t, e, api.ErrFull)
		wantList(t, d)
		if d.Used() != 0 || len(d.List("")) > 0 {
			t.Fatal("left behind")
		}
		d.SetCapacity(size)
		put(t, d, p)
	}
}

// P8.1: what a Crash leaves of a Write takes no room from the next one, be it of the same name or another.
func TestLeftoversTakeNoRoom(t *testing.T) {
	p, left := small("b1"), 0
	d := disk.New(room)
	put(t, d, p)
	size := d.Used()
	for _, name := range []string{"b1", "b2"} {
		for stop := range 6 {
			crashes(2, size, func(cuts []int) {
				d := disk.New(size)
				d.Stop(stop)
				write(d, p)
				d.Crash(cuts)
				if len(block.List(d)) > 0 {
					return
				}
				left += min(d.Used(), 1)
				put(t, d, small(name))
			})
		}
	}
	if left == 0 {
		t.Fatal("no Crash left anything")
	}
}

// P8.2, P8.4: a block that is written where a removed one's name is still durable is told behind its own Write alone.
func TestWriteBehindRefusedRemove(t *testing.T) {
	first, second := small("b1"), large("b1")
	for stop := range 3 {
		for again := range 9 {
			for _, cuts := range [][]int{nil, {1, 0, 0}, {2, 9999}, {3, 9999}, {-1, -1, -1}} {
				d := disk.New(room)
				put(t, d, first)
				d.Stop(stop)
				removed := block.Remove(d, "b1")
				d.Stop(again) // the disk goes on, for a while
				if len(block.List(d)) > 0 {
					reads(t, d, first)
					continue
				}
				e := write(d, second)
				if e == api.OK {
					reads(t, d, second)
				} else {
					wantList(t, d)
					refused(t, d, "b1", api.ErrNone)
				}
				d.Crash(cuts)
				b, got := block.Open(d, "b1")
				switch {
				case e == api.OK:
					want(t, got, api.OK)
					wantTold(t, b, second)
				case got == api.OK && b.Meta() == second.meta:
					wantTold(t, b, second)
				case got == api.OK && removed != api.OK:
					wantTold(t, b, first)
				default:
					want(t, got, api.ErrNone)
				}
			}
		}
	}
}

// P8.4: a log on the same disk, whose operations make directories durable, gives no block its name.
func TestLogBeside(t *testing.T) {
	p := small("b1")
	for _, faults := range faultRows() {
		d := disk.New(room)
		l, _, _ := wal.Open(d)
		want(t, l.Append([]byte("a")), api.OK)
		for _, after := range faults {
			d.Fault(after, 2)
		}
		e := write(d, p)
		records := 1
		for _, record := range []string{"b", "c"} {
			if l.Append([]byte(record)) == api.OK {
				records++
			}
		}
		if there := len(block.List(d)) == 1; there != (e == api.OK) {
			t.Fatal(faults, e, there)
		}
		spend(d)
		want(t, l.Checkpoint([][]byte{[]byte("x")}), api.OK)
		d.Crash(nil)
		if there := len(whole(t, d, p)) == 1; there != (e == api.OK) {
			t.Fatal(faults, e, there)
		}
		if _, got, _ := wal.Open(d); len(got) != 1 {
			t.Fatal("the log has lost something", len(got))
		}
	}
}
