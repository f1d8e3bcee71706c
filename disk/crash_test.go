package disk_test

import (
	"bytes"
	"maps"
	"math"
	"slices"
	"strings"
	"testing"

	"vigil/api"
	"vigil/disk"
)

// P1.7: the table Runs.
func TestRunsOfCrash(t *testing.T) {
	d := disk.New(10)
	d.Create("a")
	d.Append("a", []byte("xyz"))
	d.Crash(nil)
	wantNames(t, d.List(""))
	wantNames(t, d.Durable())

	d = holding(t, "a")
	d.Append("a", []byte("xyz"))
	d.Crash([]int{0, 2})
	wantBytes(t, d, "a", "xy")

	for _, cuts := range [][]int{nil, {0}, {0, 0}, {1, 1}, {-1, -1}, {math.MaxInt, math.MinInt}} {
		d = holding(t, "a")
		d.Append("a", []byte("xyz"))
		d.Sync("a")
		d.Crash(cuts)
		wantBytes(t, d, "a", "xyz")
	}

	for cut, name := range []string{"a", "b"} {
		d = holding(t, "a")
		d.Rename("a", "b")
		d.Crash([]int{cut})
		wantNames(t, d.List(""), name)
	}

	d = disk.New(10)
	d.Stop(1)
	want(t, d.Create("a"), api.OK)
	want(t, d.Create("b"), api.ErrDead)
	d.Crash([]int{1})
	wantNames(t, d.List(""), "a")
}

// P1.7: the pending changes are done in order, as many as the first number says, modulo 5.
func TestPendingChanges(t *testing.T) {
	states := []string{"a b", "a b c", "b c d", "b d", "c d"}
	for cut := -12; cut <= 12; cut++ {
		d := holding(t, "a", "b")
		d.Create("c")
		d.Rename("a", "d")
		d.Remove("c")
		d.Rename("b", "c")
		d.Crash([]int{cut})
		names := strings.Fields(states[((cut%5)+5)%5])
		wantNames(t, d.List(""), names...)
		wantNames(t, d.Durable(), names...)
	}
}

// P1.7: refused changes do not pend, and neither do those ahead of a SyncDir or Crash.
func TestWhatPends(t *testing.T) {
	d := holding(t, "a")
	d.Create("a")
	d.Remove("nosuch")
	d.Rename("nosuch", "b")
	d.Create("b")
	d.Crash([]int{1})
	wantNames(t, d.List(""), "a", "b")
	d.Create("c")
	d.SyncDir()
	d.Create("d")
	d.Crash([]int{2})
	wantNames(t, d.List(""), "a", "b", "c")
	d.Create("e")
	d.Crash(nil)
	d.Create("f")
	d.Crash([]int{1})
	wantNames(t, d.List(""), "a", "b", "c", "f")
}

// P1.7: of each name a number, rising, also where there is nothing to lose; the remainder is 0 or more.
func TestCutsOfFiles(t *testing.T) {
	for _, c := range []struct {
		cuts    []int
		a, b, c string
	}{
		{nil, "", "12", ""},
		{[]int{0}, "", "12", ""},
		{[]int{0, 2}, "12", "12", ""},
		{[]int{0, 0, 9, 2}, "", "12", "12"},
		{[]int{7, 4, 0, 6}, "1234", "12", "1"},
		{[]int{0, 5, 0, 5}, "", "12", ""},
		{[]int{0, -1, -1, -4}, "1234", "12", "1"},
		{[]int{0, math.MaxInt, 1, math.MinInt}, "12", "12", "12"},
		{[]int{0, 1, 1, 1, 1, 1}, "1", "12", "1"},
	} {
		d := holding(t, "c", "b", "a")
		d.Append("b", []byte("12"))
		d.Sync("b")
		d.Append("c", []byte("1234"))
		d.Append("a", []byte("1234"))
		d.Crash(c.cuts)
		wantBytes(t, d, "a", c.a)
		wantBytes(t, d, "b", c.b)
		wantBytes(t, d, "c", c.c)
		wantInt(t, "Used", d.Used(), len(c.a+c.b+c.c))
	}
}

// P1.7: bytes belong to the file, under whichever name it is found again.
func TestFileBehindItsNames(t *testing.T) {
	for cut, name := range []string{"a", "b"} {
		d := holding(t, "a")
		d.Append("a", []byte("12"))
		d.Rename("a", "b")
		d.Append("b", []byte("34"))
		d.Sync("b")
		d.Append("b", []byte("56"))
		d.Crash([]int{cut, 1})
		wantNames(t, d.List(""), name)
		wantBytes(t, d, name, "12345")
	}
	d := holding(t, "a", "b")
	d.Append("a", []byte("old"))
	d.Sync("a")
	d.Append("b", []byte("new"))
	d.Rename("b", "a")
	d.Crash([]int{0, 0, 2})
	wantBytes(t, d, "a", "old")
	wantBytes(t, d, "b", "ne")
	d.Remove("a")
	d.Create("a")
	d.Append("a", []byte("x"))
	d.Sync("a")
	d.Crash([]int{0})
	wantBytes(t, d, "a", "old")
	d.Remove("a")
	d.Create("a")
	d.Append("a", []byte("x"))
	d.Sync("a")
	d.Crash([]int{2})
	wantBytes(t, d, "a", "x")
}

// P1.7: what is left is durable; bytes that come behind it are not.
func TestLeftIsDurable(t *testing.T) {
	d := holding(t, "a")
	d.Append("a", []byte("1234"))
	d.Crash([]int{0, 3})
	wantBytes(t, d, "a", "123")
	d.Crash(nil)
	wantBytes(t, d, "a", "123")
	d.Append("a", []byte("xy"))
	wantBytes(t, d, "a", "123xy")
	d.Crash([]int{0, 1})
	wantBytes(t, d, "a", "123x")
	d.Remove("a")
	d.Crash(nil)
	wantNames(t, d.List(""), "a")
}

// P1.7: no fault waits, the Disk is not stopped and does not come to be, the capacity and Ops go on.
func TestWhatCrashEnds(t *testing.T) {
	d := holding(t, "a")
	n := d.Ops()
	d.SetCapacity(1)
	d.Fault(0, 1)
	d.Fault(2, 2)
	d.Stop(3)
	d.Crash(nil)
	for range 5 {
		want(t, d.Sync("a"), api.OK)
	}
	want(t, d.Append("a", []byte("12")), api.ErrFull)
	wantInt(t, "Ops", d.Ops(), n+6)
	d.Fault(1, 1)
	want(t, d.Sync("a"), api.OK)
	want(t, d.Sync("a"), api.ErrIO)
}

// modelFile and model say the chapter again by whole copies: every directory that a Crash may find is kept.
type modelFile struct {
	bytes   []byte
	durable int
}

type model struct {
	names  map[string]*modelFile
	states []map[string]*modelFile // the durable directory, then that behind each pending change
}

func newModel() *model {
	return &model{names: map[string]*modelFile{}, states: []map[string]*modelFile{{}}}
}

func (m *model) pend() { m.states = append(m.states, maps.Clone(m.names)) }

func (m *model) used() int {
	n := 0
	for _, f := range m.names {
		n += len(f.bytes)
	}
	return n
}

func (m *model) crash(cuts []int) {
	next := func(n int) int {
		if len(cuts) == 0 {
			return 0
		}
		c := cuts[0]
		cuts = cuts[1:]
		return ((c % n) + n) % n
	}
	m.names = m.states[next(len(m.states))]
	for _, name := range slices.Sorted(maps.Keys(m.names)) {
		f := m.names[name]
		f.bytes = bytes.Clone(f.bytes[:f.durable+next(len(f.bytes)-f.durable+1)])
		f.durable = len(f.bytes)
	}
	m.states = []map[string]*modelFile{maps.Clone(m.names)}
}

// step does one operation on both; the model does it only if the answer is the one that it asks for.
func (m *model) step(t *testing.T, d *disk.Disk, kind int, name, other string, b []byte, capacity int) {
	t.Helper()
	f := m.names[name]
	e := api.OK
	if f == nil {
		e = api.ErrNone
	}
	switch kind {
	case 0:
		e = api.OK
		if f != nil {
			e = api.ErrThere
		}
		want(t, d.Create(name), e)
		if e == api.OK {
			m.names[name] = &modelFile{}
			m.pend()
		}
	case 1:
		if e == api.OK && len(b) > 0 && m.used()+len(b) > capacity {
			e = api.ErrFull
		}
		want(t, d.Append(name, b), e)
		if e == api.OK {
			f.bytes = append(f.bytes, b...)
		}
	case 2:
		want(t, d.Sync(name), e)
		if e == api.OK {
			f.durable = len(f.bytes)
		}
	case 3:
		want(t, d.Rename(name, other), e)
		if e == api.OK && name != other {
			delete(m.names, name)
			m.names[other] = f
			m.pend()
		}
	case 4:
		want(t, d.Remove(name), e)
		if e == api.OK {
			delete(m.names, name)
			m.pend()
		}
	case 5:
		want(t, d.SyncDir(), api.OK)
		m.states = []map[string]*modelFile{maps.Clone(m.names)}
	}
}

func (m *model) compare(t *testing.T, d *disk.Disk) {
	t.Helper()
	wantNames(t, d.List(""), slices.Sorted(maps.Keys(m.names))...)
	wantNames(t, d.Durable(), slices.Sorted(maps.Keys(m.states[0]))...)
	wantInt(t, "Used", d.Used(), m.used())
	for name, f := range m.names {
		wantBytes(t, d, name, string(f.bytes))
	}
}

// numbers are as good as any, and the same in each run.
type numbers uint64

func (n *numbers) below(most int) int {
	*n = *n*6364136223846793005 + 1442695040888963407
	return int(uint64(*n)>>33) % most
}

// P1.3, P1.7: long rows of operations and crashes against the model.
func TestAgainstModel(t *testing.T) {
	names := []string{"a", "b", "c/d", "c"}
	for seed := range 200 {
		n := numbers(seed)
		capacity := n.below(60)
		d, m := disk.New(capacity), newModel()
		for range 200 {
			if n.below(12) == 0 {
				cuts := make([]int, n.below(7))
				for i := range cuts {
					cuts[i] = n.below(30) - 15
				}
				m.crash(cuts)
				d.Crash(cuts)
			} else {
				name, other := names[n.below(4)], names[n.below(4)]
				b := bytes.Repeat([]byte{byte('a' + n.below(26))}, n.below(6))
				m.step(t, d, n.below(6), name, other, b, capacity)
			}
			m.compare(t, d)
		}
	}
}

// P1.9: whatever is cut, with faults and a Stop among the operations.
func TestBehindCrash(t *testing.T) {
	for seed := range 500 {
		n := numbers(seed)
		d := holding(t, "kept", "other")
		d.Append("kept", []byte("0123456789")[:n.below(11)])
		d.Sync("kept")
		durable, _ := d.Read("kept")
		for range 1 + n.below(20) {
			switch n.below(8) {
			case 0:
				d.Create("new")
			case 1:
				d.Rename("new", "other")
			case 2:
				d.Remove("other")
			case 3:
				d.Fault(n.below(3), n.below(4))
			case 4:
				d.Stop(n.below(8) + 1)
			default:
				d.Append("kept", []byte("abcdef")[:n.below(7)])
			}
		}
		had, _ := d.Read("kept")
		d.Crash([]int{n.below(50) - 25, n.below(50) - 25, n.below(50) - 25, n.below(50)})
		left, e := d.Read("kept")
		want(t, e, api.OK)
		if !bytes.HasPrefix(left, durable) || !bytes.HasPrefix(had, left) {
			t.Fatalf("seed %d: %q durable, %q there, %q left", seed, durable, had, left)
		}
	}
}
