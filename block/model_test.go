package block_test

import (
	"fmt"
	"maps"
	"slices"
	"testing"

	"vigil/api"
	"vigil/block"
	"vigil/disk"
)

// A model of the chapter's words: which blocks there are, and what a Crash may make of each name: a block that it had, or was to get, or none (an empty text).
type model struct {
	now     map[string]string
	perhaps map[string][]string
}

// rowOfEvents does a long row of calls, faults, stops and crashes against the model.
type rowOfEvents struct {
	n       numbers
	d       *disk.Disk
	m       model
	calm    int  // the number of the operation from which on no fault waits
	stop    int  // the number of the first operation that is ErrDead
	stopped bool // there is one
	dead    bool // one was: a disk that was told to go on since may give names that nobody asked for
	full    bool
	done    map[string]int
}

func newRow(seed int) *rowOfEvents {
	return &rowOfEvents{n: numbers(seed), d: disk.New(room), m: model{now: map[string]string{}, perhaps: map[string][]string{}}, done: map[string]int{}}
}

func (r *rowOfEvents) name() string { return []string{"a", "b1", "b", "wal"}[r.n.below(4)] }

// pack draws what a block may be made of.
func (r *rowOfEvents) pack() pack {
	p := pack{meta: api.Meta{Name: r.name(), Min: -r.n.below(50), Max: 2000, Level: r.n.below(3)}}
	sets := []string{"", "__name__=up", "a=1", "a=1 b=1", "a=2", "b=1"}
	for _, text := range sets {
		if r.n.below(3) > 0 {
			continue
		}
		s := api.Series{Labels: set(text)}
		for i, t := 0, p.meta.Min; i < 1+r.n.below(4)*r.n.below(60) && t < p.meta.Max; i++ {
			s.Samples = append(s.Samples, api.Sample{T: t, V: float64(r.n.below(9))})
			t += 1 + r.n.below(20)
		}
		p.series = append(p.series, s)
		if r.n.below(4) == 0 {
			p.gone = append(p.gone, api.Gone{Labels: s.Labels, Min: r.n.below(9), Max: 9 + r.n.below(9)})
		}
	}
	return p
}

// ended asks that a refusal has a reason, and notes whether the disk is dead.
func (r *rowOfEvents) ended(t *testing.T, call string, calm bool, e api.Errno) {
	t.Helper()
	if e != api.OK && calm {
		t.Fatalf("%s refused by %d without a reason", call, e)
	}
	if e != api.OK && e != api.ErrIO && e != api.ErrDead && e != api.ErrFull {
		t.Fatalf("%s refused by %d", call, e)
	}
	r.dead = r.dead || r.stopped && r.d.Ops() > r.stop
	r.done[fmt.Sprint(call, e)]++
}

func (r *rowOfEvents) isCalm() bool { return r.d.Ops() >= r.calm && !r.stopped && !r.full }

func (r *rowOfEvents) write(t *testing.T) {
	p := r.pack()
	name, calm := p.meta.Name, r.isCalm()
	e := write(r.d, p)
	if r.m.now[name] != "" {
		want(t, e, api.ErrThere)
		return
	}
	r.ended(t, "write", calm, e)
	if e == api.OK {
		r.m.now[name], r.m.perhaps[name] = p.spelt(), nil
	} else if r.dead {
		r.m.perhaps[name] = append(r.m.perhaps[name], p.spelt())
	}
}

func (r *rowOfEvents) remove(t *testing.T) {
	name, calm := r.name(), r.isCalm()
	e := block.Remove(r.d, name)
	if r.m.now[name] == "" {
		want(t, e, api.ErrNone)
		return
	}
	r.ended(t, "remove", calm, e)
	if e != api.OK && r.dead {
		r.m.perhaps[name] = append(r.m.perhaps[name], r.m.now[name], "")
	}
	if e == api.OK {
		r.m.perhaps[name] = nil
	}
	if e == api.OK || !slices.Contains(block.List(r.d), name) {
		delete(r.m.now, name)
	}
}

func (r *rowOfEvents) crash(t *testing.T) {
	cuts := make([]int, r.n.below(8))
	for i := range cuts {
		cuts[i] = r.n.below(4000) - 2000
	}
	if len(cuts) > 0 {
		cuts[0] = r.n.below(8)
	}
	r.d.Crash(cuts)
	r.calm, r.stopped, r.dead = 0, false, false
	for _, name := range []string{"a", "b1", "b", "wal"} {
		is := ""
		if b, e := block.Open(r.d, name); e == api.OK {
			is = told(b).spelt()
		} else {
			want(t, e, api.ErrNone)
		}
		if was := r.m.now[name]; is != was {
			if !slices.Contains(r.m.perhaps[name], is) {
				t.Fatalf("behind a Crash %s is %.200q, was %.200q", name, is, was)
			}
			r.done["otherwise"]++
			r.m.now[name] = is
		}
		if is == "" {
			delete(r.m.now, name)
		}
	}
	clear(r.m.perhaps)
}

// check asks that List and Open tell what the model has.
func (r *rowOfEvents) check(t *testing.T) {
	t.Helper()
	wantList(t, r.d, slices.Sorted(maps.Keys(r.m.now))...)
	for name, is := range r.m.now {
		b, e := block.Open(r.d, name)
		want(t, e, api.OK)
		if told(b).spelt() != is {
			t.Fatalf("%s: %.200q, want %.200q", name, told(b).spelt(), is)
		}
	}
}

func (r *rowOfEvents) step(t *testing.T) {
	switch r.n.below(24) {
	case 0:
		r.crash(t)
	case 1, 2, 3, 4:
		after := r.n.below(8)
		r.d.Fault(after, 1+r.n.below(3))
		r.calm = max(r.calm, r.d.Ops()+after+1)
	case 5, 6:
		after := r.n.below(9)
		r.d.Stop(after)
		r.stop, r.stopped = r.d.Ops()+after, true
	case 7:
		r.full = !r.full && r.n.below(2) == 0
		r.d.SetCapacity(room)
		if r.full {
			r.d.SetCapacity(r.d.Used() + r.n.below(600))
		}
	case 8:
		if !r.dead {
			r.d.SyncDir()
			r.dead = r.stopped && r.d.Ops() > r.stop
		}
	case 9, 10, 11, 12, 13, 14:
		r.remove(t)
	default:
		r.write(t)
	}
	r.check(t)
}

// P8.1 to P8.4: long rows of all that may come.
func TestAgainstModel(t *testing.T) {
	done := map[string]int{}
	for seed := range 1500 {
		r := newRow(seed)
		for range 100 {
			r.step(t)
		}
		r.crash(t)
		r.d.SetCapacity(room)
		r.full = false
		for range 6 {
			r.write(t)
			r.remove(t)
			r.check(t)
		}
		for what, n := range r.done {
			done[what] += n
		}
	}
	for _, what := range []string{"write0", "write5", "write6", "write7", "remove0", "remove6", "remove7", "otherwise"} {
		if done[what] < 100 {
			t.Fatal("hardly any", what, done)
		}
	}
}
