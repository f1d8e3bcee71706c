package wal_test

import (
	"fmt"
	"slices"
	"strings"
	"testing"

	"vigil/api"
	"vigil/disk"
	"vigil/wal"
)

// numbers are as good as any, and the same in each run.
type numbers uint64

func (n *numbers) below(most int) int {
	*n = *n*6364136223846793005 + 1442695040888963407
	return int(uint64(*n)>>33) % most
}

// call is one Append of a record, or a Checkpoint.
type call struct {
	checkpoint bool
	records    []string
}

func (c call) do(l *wal.Log) api.Errno {
	if c.checkpoint {
		return l.Checkpoint(rows(c.records))
	}
	return l.Append([]byte(c.records[0]))
}

// behind is what the content is, if the call is OK.
func (c call) behind(content []string) []string {
	if c.checkpoint {
		return c.records
	}
	return append(slices.Clone(content), c.records...)
}

// model says the chapter again: the content, and what a Crash may make of it by one of the calls that were refused.
type model struct {
	content []string
	perhaps [][]string
}

func (m *model) answered(c call, e api.Errno) {
	behind := c.behind(m.content)
	if e == api.OK {
		m.content, m.perhaps = behind, nil
	} else {
		m.perhaps = append(m.perhaps, behind)
	}
}

// may tells whether Open may tell these records, and takes them for the content.
func (m *model) may(records []string) bool {
	for _, p := range append(m.perhaps, m.content) {
		if slices.Equal(p, records) {
			m.content = records
			return true
		}
	}
	return false
}

// scripts are short rows of calls, such that the end of each row strikes what the calls ahead of it left.
func scripts() [][]call {
	a, b, c := call{records: []string{"a"}}, call{records: []string{"bb"}}, call{records: []string{""}}
	none, x := call{checkpoint: true}, call{checkpoint: true, records: []string{"x", "", "yy"}}
	var out [][]call
	all := []call{a, b, c, none, x}
	for _, first := range all {
		for _, second := range all {
			for _, third := range all {
				out = append(out, []call{first, second, third})
			}
		}
	}
	return out
}

// trial is how the disk fails in a script: at its operations, by these kinds, or by a Stop, and what a Crash cuts.
type trial struct {
	faults []int
	kind   int
	stop   int
	cuts   []int
}

// run does a script on a new Log and crashes the disk behind it; false if no operation was struck.
func (x trial) run(t *testing.T, script []call, crashes int) bool {
	t.Helper()
	d := disk.New(room)
	l := opened(t, d)
	put(t, l, "old")
	m := model{content: []string{"old"}}
	for _, after := range x.faults {
		d.Fault(after, x.kind)
	}
	if x.stop >= 0 {
		d.Stop(x.stop)
	}
	begun := d.Ops()
	for _, c := range script {
		e := c.do(l)
		m.answered(c, e)
		if l.Failed() != (e != api.OK) {
			t.Fatal("Failed", l.Failed(), e)
		}
		wantContent(t, l, m.content)
	}
	ops := d.Ops() - begun
	for range crashes {
		d.Crash(x.cuts)
		_, got, e := wal.Open(d)
		if e != api.OK || !m.may(texts(got)) {
			t.Fatalf("%v of %v: Open tells %q, not %q or one of %q", x, script, texts(got), m.content, m.perhaps)
		}
		m.perhaps = nil // the second Crash finds nothing to lose
	}
	l, _, _ = wal.Open(d)
	put(t, l, "new")
	d.Crash(x.cuts)
	opened(t, d, append(slices.Clone(m.content), "new")...)
	return x.stop >= 0 && x.stop < ops || slices.ContainsFunc(x.faults, func(after int) bool { return after < ops })
}

// cutsOf are cuts that keep so many of the pending changes, and of the files' bytes all alike, or only some.
func cutsOf(changes, bytes int) [][]int {
	var out [][]int
	for c := range changes {
		for b := range bytes {
			out = append(out, []int{c, b, b, b, b, b, b}, []int{c, 0, b, 0, b, 0, b}, []int{c, b, 0, b, 0, b, 0})
		}
	}
	return out
}

// P6.5: each operation of short rows of calls is the last ahead of a Crash, with a share of the cuts each.
func TestStops(t *testing.T) {
	cuts := cutsOf(6, 12)
	for i, script := range scripts() {
		for stop := 0; ; stop++ {
			struck := false
			for j, c := range cuts {
				if (i+j)%7 != 0 {
					continue // all rows meet all kinds of cuts, not each row each one
				}
				struck = trial{stop: stop, cuts: c}.run(t, script, 2) || struck
			}
			if !struck {
				break
			}
		}
	}
}

// P6.5: one operation of short rows of calls is struck by a fault, then comes a Crash.
func TestOneFault(t *testing.T) {
	cuts := cutsOf(6, 12)
	for i, script := range scripts() {
		for after := 0; ; after++ {
			struck := false
			for j, c := range cuts {
				if (i+j)%11 != 0 {
					continue
				}
				struck = trial{faults: []int{after}, kind: 1 + j%2, stop: -1, cuts: c}.run(t, script, 1) || struck
			}
			if !struck {
				break
			}
		}
	}
}

// P6.5: two operations are struck, and those behind one of them as well.
func TestMoreFaults(t *testing.T) {
	cuts := cutsOf(8, 12)
	n := numbers(3)
	for _, script := range scripts() {
		for after := range 14 {
			for gap := 1; gap < 10; gap++ {
				faults := []int{after, after + gap, after + gap + 1}
				trial{faults: faults, kind: 1 + n.below(2), stop: -1, cuts: cuts[n.below(len(cuts))]}.run(t, script, 1)
			}
		}
	}
}

// P6.5: that cuts of the right length show each of the outcomes that are free: else the tests above would see nothing.
func TestOutcomes(t *testing.T) {
	for _, x := range []struct {
		call    call
		outcome []string
	}{
		{call{records: []string{"b"}}, []string{`"a"`, `"a""b"`}},
		{call{checkpoint: true, records: []string{"x", "y"}}, []string{`"a"`, `"x""y"`}},
	} {
		told := map[string]int{}
		for stop := range 8 {
			for _, cuts := range cutsOf(4, 20) {
				d := disk.New(room)
				l := opened(t, d)
				put(t, l, "a")
				d.Stop(stop)
				e := x.call.do(l)
				d.Crash(cuts)
				_, got, _ := wal.Open(d)
				if e != api.OK {
					told[spelt(texts(got))]++
				}
			}
		}
		if len(told) != 2 || told[x.outcome[0]] == 0 || told[x.outcome[1]] == 0 {
			t.Fatal(told)
		}
	}
}

// P6.5: nothing that was refused ahead of a call that was OK is told, wherever the refused one was struck and whatever that left.
func TestRefusedAheadOfOK(t *testing.T) {
	calls := []call{{records: []string{"bad"}}, {checkpoint: true, records: []string{"bad", "worse"}}, {checkpoint: true}}
	for _, refused := range calls {
		for _, good := range []call{{records: []string{"good"}}, {checkpoint: true, records: []string{"good"}}} {
			for after := range 10 {
				for more := range 10 { // so many operations behind the first one fail as well
					for kind := 1; kind <= 2; kind++ {
						d := disk.New(room)
						l := opened(t, d)
						put(t, l, "a")
						for i := range more + 1 {
							d.Fault(after+i, kind)
						}
						m := model{content: []string{"a"}}
						for range 5 {
							m.answered(refused, refused.do(l))
						}
						spend(d)
						e := good.do(l)
						want(t, e, api.OK)
						m.answered(good, e)
						wantContent(t, l, m.content)
						opened(t, d, m.content...)
						d.Crash([]int{more, kind, after, more, 3, 2, 1})
						opened(t, d, m.content...)
					}
				}
			}
		}
	}
}

// rowOfEvents does a long row of calls, faults, stops, crashes and Opens against the model.
type rowOfEvents struct {
	n       numbers
	d       *disk.Disk
	l       *wal.Log
	m       model
	calm    int // the number of the operation from which on no fault waits
	stopped bool
	full    bool
	made    int
}

func (r *rowOfEvents) call() call {
	record := func() string {
		r.made++
		return fmt.Sprint(r.made, strings.Repeat(".", r.n.below(8)*r.n.below(4)))
	}
	if r.n.below(6) > 0 {
		return call{records: []string{record()}}
	}
	c := call{checkpoint: true}
	for range r.n.below(4) {
		c.records = append(c.records, record())
	}
	return c
}

func (r *rowOfEvents) do(t *testing.T) {
	c := r.call()
	calm := r.d.Ops() >= r.calm && !r.stopped && !r.full
	e := c.do(r.l)
	switch {
	case e != api.OK && calm:
		t.Fatalf("refused by %d without a reason", e)
	case e != api.OK && e != api.ErrIO && e != api.ErrDead && e != api.ErrFull:
		t.Fatalf("refused by %d", e)
	}
	r.m.answered(c, e)
	if r.l.Failed() != (e != api.OK) {
		t.Fatal("Failed", r.l.Failed(), e)
	}
	wantContent(t, r.l, r.m.content)
}

func (r *rowOfEvents) open(t *testing.T) {
	l, got, e := wal.Open(r.d)
	want(t, e, api.OK)
	if !r.m.may(texts(got)) {
		t.Fatalf("Open tells %q, not %q or one of %q", texts(got), r.m.content, r.m.perhaps)
	}
	r.l = l
	wantContent(t, l, texts(got))
}

func (r *rowOfEvents) crash(t *testing.T) {
	cuts := make([]int, r.n.below(12))
	for i := range cuts {
		cuts[i] = r.n.below(60) - 30
	}
	r.d.Crash(cuts)
	r.calm, r.stopped = 0, false
	r.open(t)
	r.m.perhaps = nil
}

func (r *rowOfEvents) step(t *testing.T) {
	switch r.n.below(20) {
	case 0, 1:
		r.crash(t)
	case 2:
		// What Open tells behind a refused call may be lost by a Crash as well, so that the content from ahead of it stays one that may be told.
		if len(r.m.perhaps) > 0 {
			r.m.perhaps = append(r.m.perhaps, r.m.content)
		}
		r.open(t)
	case 3, 4, 5:
		after := r.n.below(9)
		r.d.Fault(after, 1+r.n.below(3))
		r.calm = max(r.calm, r.d.Ops()+after+1)
	case 6:
		if r.n.below(4) == 0 {
			r.d.Stop(r.n.below(10))
			r.stopped = true
		}
	case 7:
		r.full = !r.full && r.n.below(3) == 0
		r.d.SetCapacity(room)
		if r.full {
			r.d.SetCapacity(r.d.Used() + r.n.below(40))
		}
	default:
		r.do(t)
	}
}

// P6.2 to P6.6: long rows of all that may come.
func TestAgainstModel(t *testing.T) {
	for seed := range 3000 {
		r := &rowOfEvents{n: numbers(seed), d: disk.New(room)}
		r.l = opened(t, r.d)
		for range 120 {
			r.step(t)
		}
		r.crash(t)
		r.d.SetCapacity(room)
		r.full = false
		r.do(t)
		opened(t, r.d, r.m.content...)
		r.d.Crash([]int{seed, seed, seed})
		opened(t, r.d, r.m.content...)
	}
}

// P6.6: behind any row of faults, Append is OK as soon as none strikes.
func TestAppendBehindFaults(t *testing.T) {
	for seed := range 300 {
		n := numbers(seed)
		d := disk.New(room)
		l := opened(t, d)
		var content []string
		for i := range 50 {
			d.Fault(n.below(4), 1+n.below(2))
			r := fmt.Sprint(i)
			if l.Append([]byte(r)) == api.OK {
				content = append(content, r)
			}
			if n.below(10) == 0 && l.Checkpoint(nil) == api.OK {
				content = nil
			}
		}
		spend(d)
		put(t, l, "end")
		content = append(content, "end")
		wantContent(t, l, content)
		opened(t, d, content...)
		d.Crash(nil)
		opened(t, d, content...)
	}
}
