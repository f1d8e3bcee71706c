package tsdb_test

import (
	"fmt"
	"math"
	"math/rand"
	"slices"
	"testing"

	"vigil/api"
	"vigil/disk"
	"vigil/tsdb"
)

// script makes calls at random; its clock goes on.
type script struct {
	*rand.Rand
	clock int
}

func (r *script) value() float64 {
	odd := []uint64{api.StaleBits, 0x7ff8000000000001, 0xfff0000000000003, 1 << 63, 0, 1}
	if r.Intn(4) == 0 {
		return math.Float64frombits(odd[r.Intn(len(odd))])
	}
	return float64(r.Intn(5))
}

func (r *script) point() api.Point {
	sets := someSets()
	p := api.Point{Labels: sets[r.Intn(6)], T: r.clock - r.Intn(4), V: r.value()}
	switch r.Intn(16) {
	case 0:
		p.Labels = sets[8+r.Intn(2)]
	case 1:
		p.T = []int{api.MaxTime + 1, -api.MaxTime - 1, math.MinInt, -api.MaxTime}[r.Intn(4)]
	case 2, 3:
		p.T -= r.Intn(60)
	}
	return p
}

func (r *script) append() call {
	r.clock += []int{0, 1, 1, 3, 7, 25}[r.Intn(6)]
	var c call
	for range r.Intn(6) {
		c.batch = append(c.batch, r.point())
	}
	for range r.Intn(4) * r.Intn(2) {
		c.states = append(c.states, api.Label{Name: []string{"", "k", "k2", "\xff"}[r.Intn(4)], Value: []string{"", "v", "w", "\x00\xff"}[r.Intn(4)]})
	}
	return c
}

func (r *script) delete() call {
	mint := r.clock - r.Intn(80)
	c := deletes(mint, mint+r.Intn(40))
	switch r.Intn(8) {
	case 0:
		c.mint, c.maxt = math.MinInt, math.MaxInt
	case 1:
		c.mint, c.maxt = c.maxt, c.mint
	}
	kinds := [][]api.Matcher{nil, {is("a", "1")}, {is("a", "1"), is("b", "")}, {{Kind: api.Match, Name: "b", Value: ".+"}}, {is("a", "9")}, {{Kind: 5}}, {{Kind: api.NotMatch, Value: "["}}}
	c.ms = kinds[min(r.Intn(12), r.Intn(len(kinds)))]
	return c
}

func (r *script) call() call {
	if r.Intn(5) == 0 {
		return r.delete()
	}
	return r.append()
}

func (r *script) cuts() []int {
	cuts := make([]int, r.Intn(12))
	for i := range cuts {
		cuts[i] = r.Intn(200) - 20
	}
	return cuts
}

func (r *script) width() int { return []int{1, 2, 10, 10, 10, 1 << 30, math.MaxInt}[r.Intn(7)] }

func (r *script) store() api.Store {
	return api.Store{
		Block:     r.width(),
		Retention: []int{0, 1, 20, 60, 60, 1 << 40, math.MaxInt}[r.Intn(7)],
	}
}

// seeds runs a test with so many seeds, several side by side.
func seeds(t *testing.T, n int, f func(t *testing.T, seed int)) {
	const groups = 8
	for g := range groups {
		t.Run(fmt.Sprint(g), func(t *testing.T) {
			t.Parallel()
			for seed := g; seed < n; seed += groups {
				f(t, seed)
			}
		})
	}
}

// P10.2 to P10.7: whatever is called, the store tells what a Head and states would, is it maintained, opened anew, crashed, or not.
func TestAnyCalls(t *testing.T) {
	seeds(t, 1000, func(t *testing.T, seed int) {
		// Most begin somewhere, some at the very beginning, or close to the end of all times.
		clock := []int{0, 33, -50, 1000, 7, -api.MaxTime, api.MaxTime - 150}[seed%7]
		r := &script{Rand: rand.New(rand.NewSource(int64(seed))), clock: clock}
		s := r.store()
		d := disk.New(room)
		b, m := opened(t, d, s), newModel(s.Retention)
		for step := range 40 {
			switch r.Intn(10) {
			case 0, 1:
				maintained(t, b)
				tidy(t, d, b, s)
			case 2:
				s.Block = r.width()
				b = opened(t, d, s)
			case 3:
				d.Crash(r.cuts())
				b = opened(t, d, s)
			default:
				c := r.call()
				_, keeps := m.ask(c)
				ops := d.Ops()
				done(t, b, m, c)
				if !keeps && d.Ops() != ops {
					t.Fatal("operations for nothing", c)
				}
			}
			wantSame(t, b, m, seed, step, s)
		}
	})
}

// possible is what a store may tell: one row of calls, or others behind a crash.
type possible struct {
	now    []call
	others [][]call
}

func (p *possible) with(c call) []call { return append(slices.Clone(p.now), c) }

// settle finds the row that a store tells.
func (p *possible) settle(t *testing.T, b *tsdb.DB, retention int, why ...any) {
	t.Helper()
	got := picture(b)
	for _, calls := range append([][]call{p.now}, p.others...) {
		if picture(newModel(retention, calls...)) == got {
			p.now = calls
			return
		}
	}
	t.Fatal(append(why, "told:\n"+got, "\nwanted:\n"+picture(newModel(retention, p.now...)), "\nor one of", len(p.others))...)
}

// trial is a store on a disk that fails, and what it may tell.
type trial struct {
	possible
	*script
	t       *testing.T
	d       *disk.Disk
	b       *tsdb.DB
	s       api.Store
	sound   bool // no fault may wait, nor is it stopped or short of room
	stopped bool
	short   bool
	cramped bool // it was short of room, or stopped, at some time since the last call that was kept: what was refused then can't be taken back
	refused bool // the last call was, by the disk
	faults  int  // none waits for a later operation than this
}

func (x *trial) open() { x.b = opened(x.t, x.d, x.s) }

func (x *trial) check(e api.Errno) {
	x.t.Helper()
	switch {
	case e == api.OK, e == api.ErrIO && !x.sound, e == api.ErrDead && x.stopped, e == api.ErrFull && x.short:
	default:
		x.t.Fatal("refused", e, "sound", x.sound, "stopped", x.stopped, "short", x.short)
	}
	x.refused = e != api.OK
}

// call makes one, and holds its answer against the model's.
func (x *trial) call() {
	x.t.Helper()
	c := x.script.call()
	m := newModel(x.s.Retention, x.now...)
	want, keeps := m.ask(c)
	ops, was := x.d.Ops(), x.b.ReadOnly()
	got := do(x.b, c)
	if !keeps {
		x.refused = false
		if got.String() != want.String() || x.d.Ops() != ops || x.b.ReadOnly() != was {
			x.t.Fatal("nothing is to be kept", c, got, want, x.b.ReadOnly())
		}
		return
	}
	x.check(got.e)
	if x.b.ReadOnly() != x.refused {
		x.t.Fatal("read-only", x.b.ReadOnly(), got)
	}
	if x.refused {
		if c.deletes {
			want.n = 0
		}
		want.e = got.e
		x.others = append(x.others, x.with(c))
	} else {
		x.now, x.others, x.cramped = x.with(c), nil, x.short || x.stopped
	}
	if got.String() != want.String() {
		x.t.Fatal(c, "answered", got, "want", want)
	}
}

// strike lays a fault, a stop, or want of room.
func (x *trial) strike() {
	switch x.Intn(6) {
	case 0, 1, 2:
		if x.d.Ops() <= x.faults {
			return // three at a time are taken back at once
		}
		for range 1 + x.Intn(3) {
			after := x.Intn(9)
			x.d.Fault(after, 1+x.Intn(2))
			x.faults = max(x.faults, x.d.Ops()+after)
		}
	case 3, 4:
		x.d.Stop(x.Intn(20))
		x.stopped, x.cramped = true, true
	case 5:
		x.d.SetCapacity(x.d.Used() + x.Intn(300))
		x.short, x.cramped = true, true
	}
	x.sound = false
}

// goOn lets a disk go on that is stopped, or will be.
func (x *trial) goOn() {
	resume(x.d)
	x.stopped = false
}

// mend makes a disk sound, but for a stop.
func (x *trial) mend() {
	x.d.SetCapacity(room)
	for range 20 {
		x.d.SyncDir()
	}
	x.short, x.sound = false, !x.stopped
}

// reopen opens a disk that did not crash.
func (x *trial) reopen() {
	x.t.Helper()
	was := x.now
	x.open()
	if !x.refused && !x.stopped && !x.cramped {
		// P10.7, word by word: the last call was not refused, be it one that had nothing to keep.
		wantSame(x.t, x.b, newModel(x.s.Retention, x.now...), "opened anew")
	}
	x.settle(x.t, x.b, x.s.Retention, "opened anew")
	if len(x.others) > 0 {
		// What was refused may be told, and is durable only from the next call on that is OK.
		x.others = append(x.others, was)
	}
	if x.stopped {
		x.crash()
	}
}

func (x *trial) crash() {
	x.t.Helper()
	x.d.Crash(x.cuts())
	x.d.SetCapacity(room)
	x.open()
	x.settle(x.t, x.b, x.s.Retention, "behind a crash")
	x.others, x.sound, x.stopped, x.short, x.cramped, x.refused = nil, true, false, false, false, false
}

// P10.2 to P10.8: the same on a disk that fails, stops, goes on, is full, and crashes.
func TestAnyFaults(t *testing.T) {
	seeds(t, 1500, func(t *testing.T, seed int) {
		x := &trial{t: t, script: &script{Rand: rand.New(rand.NewSource(int64(seed)))}, d: disk.New(room), sound: true, faults: -1}
		x.s = x.store()
		x.open()
		for step := range 40 {
			switch x.Intn(16) {
			case 0, 1:
				x.strike()
			case 2:
				x.mend()
			case 3, 4, 5:
				x.check(x.b.Maintain())
			case 6:
				x.reopen()
			case 7:
				x.crash()
			case 8, 9:
				x.goOn()
			default:
				x.call()
			}
			wantSame(t, x.b, newModel(x.s.Retention, x.now...), fmt.Sprint(seed, step, x.s))
		}
	})
}
