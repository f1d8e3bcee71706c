package tsdb_test

import (
	"fmt"
	"slices"
	"testing"

	"vigil/api"
	"vigil/disk"
	"vigil/tsdb"
)

// short is a store of short blocks that forgets.
var short = api.Store{Block: 10, Retention: 150}

// worn is a disk whose store has joined blocks, deleted samples in them and in the log, and much to be maintained; the DB is one that was just opened, or one that has appended already.
func worn(t *testing.T, fresh bool) (*disk.Disk, *tsdb.DB, []call) {
	t.Helper()
	d := disk.New(room)
	b, m := opened(t, d, short), newModel(short.Retention)
	var calls []call
	for i := range 34 {
		c := call{batch: []api.Point{point("a=1", i*7, float64(i)), point("a=2", i*7-3, 1), point("a=1 b=1", i/9*60, 2)}, states: set(fmt.Sprint("k=", i))}
		calls = append(calls, c)
		if i%5 == 4 {
			calls = append(calls, deletes(i*7-40, i*7-20, is("b", "")), deletes(i*7-9, i*7, is("a", "2")))
		}
	}
	for i, c := range calls {
		done(t, b, m, c)
		if i == 12 || i == 31 {
			maintained(t, b)
		}
	}
	if fresh {
		b = opened(t, d, short)
	}
	return d, b, calls
}

// acts are what is done to a worn store: what is kept of it, if it keeps anything, and the doing.
func acts() map[string]struct {
	calls []call
	do    func(b *tsdb.DB) api.Errno
} {
	batch := call{batch: []api.Point{point("a=1", 240, 1), point("a=2", 241, 2), point("a=2", 241, 3), point("c=3", 100, 3), point("b=1", 242, 4)}, states: set("k=new", "l=1", "l=", "m=2")}
	gone := deletes(90, 231, is("a", "1"))
	type act = struct {
		calls []call
		do    func(b *tsdb.DB) api.Errno
	}
	return map[string]act{
		"Append":   {[]call{batch}, func(b *tsdb.DB) api.Errno { return do(b, batch).e }},
		"Delete":   {[]call{gone}, func(b *tsdb.DB) api.Errno { return do(b, gone).e }},
		"Maintain": {nil, (*tsdb.DB).Maintain},
	}
}

// The worn store is worth being struck: else the tests below see nothing.
func TestWorn(t *testing.T) {
	d, b, _ := worn(t, false)
	levels := map[int]int{}
	for _, m := range b.Blocks() {
		levels[m.Level]++
	}
	was, used := fmt.Sprint(b.Blocks()), d.Used()
	ops := d.Ops()
	maintained(t, b)
	if levels[1] == 0 || levels[2] == 0 || fmt.Sprint(b.Blocks()) == was || d.Used() >= used || d.Ops()-ops < 30 {
		t.Fatal(levels, was, b.Blocks(), used, d.Used(), d.Ops()-ops)
	}
	// What a DB finds in the log, it makes durable once.
	maintain := (*tsdb.DB).Maintain
	if more := operations(t, true, maintain) - operations(t, false, maintain); more < 1 || more > 8 {
		t.Fatal(more)
	}
}

// operations is how many an act does, where nothing strikes it.
func operations(t *testing.T, fresh bool, act func(b *tsdb.DB) api.Errno) int {
	t.Helper()
	d, b, _ := worn(t, fresh)
	ops := d.Ops()
	wantErrno(t, act(b), api.OK)
	return d.Ops() - ops
}

// goesOn asks that a store can be used as ever.
func goesOn(t *testing.T, d *disk.Disk, b *tsdb.DB, calls []call, why ...any) {
	t.Helper()
	m := newModel(short.Retention, calls...)
	wantSame(t, b, m, why...)
	done(t, b, m, appends(point("a=1", 245, 9), point("a=2", 250, 9)), deletes(200, 234, is("a", "1")), sets("k=on"))
	wantSame(t, b, m, why...)
	maintained(t, b)
	tidy(t, d, b, short)
	wantSame(t, b, m, why...)
	d.Crash(nil)
	wantSame(t, opened(t, d, short), m, why...)
}

// cutRows are ways in which a Crash cuts: some of the changes of names, then bytes of each file: none, all, the first few, all but few.
func cutRows() [][]int {
	var out [][]int
	for changes := range 6 {
		for _, n := range []int{0, -1, 1, -2, 9, -9} {
			row := []int{changes}
			for range 40 {
				row = append(row, n)
			}
			out = append(out, row)
		}
	}
	return out
}

// P10.4, P10.7: a stop at each operation of Append, Delete and Maintain, and a Crash behind it: all is there that was, and what was called whole, or not at all.
func TestStops(t *testing.T) {
	for name, act := range acts() {
		for _, fresh := range []bool{false, true} {
			t.Run(fmt.Sprint(name, fresh), func(t *testing.T) {
				t.Parallel()
				met := map[bool]int{}
				n := operations(t, fresh, act.do)
				for stop := range n + 1 {
					for i, cuts := range cutRows() {
						if n > 10 && (stop+i)%4 > 0 {
							continue
						}
						d, b, calls := worn(t, fresh)
						d.Stop(stop)
						e := act.do(b)
						// The last operations of a Maintain may be ones that it can do without.
						if e == api.OK && stop < n && act.calls != nil || e != api.OK && (e != api.ErrDead || stop == n) {
							t.Fatal(stop, n, e)
						}
						if e == api.OK && act.calls == nil {
							renewed(t, d)
						}
						if stop < n {
							wantSame(t, b, newModel(short.Retention, calls...), stop, e)
						}
						d.Crash(cuts)
						b = opened(t, d, short)
						with := append(calls, act.calls...)
						whole := picture(b) == picture(newModel(short.Retention, with...))
						met[whole]++
						if whole || stop == n {
							calls = with
						}
						goesOn(t, d, b, calls, stop, cuts)
					}
				}
				if act.calls != nil && (met[true] == 0 || met[false] == 0) {
					t.Fatal("one of the outcomes was not met:", met)
				}
			})
		}
	}
}

// P10.2 to P10.4, P10.7, P10.8: faults at each operation, one, two or three of them. What is refused is not there, neither now, nor behind Open, nor behind a call that is OK and a Crash; and all goes on.
func TestFaults(t *testing.T) {
	for name, act := range acts() {
		for _, fresh := range []bool{false, true} {
			t.Run(fmt.Sprint(name, fresh), func(t *testing.T) {
				t.Parallel()
				refused := 0
				n := operations(t, fresh, act.do)
				for after := range n {
					for _, row := range [][]int{{after}, {after, after + 1}, {after, after + 1, after + 2}, {after, after + 3}} {
						for kind := 1; kind <= 2; kind++ {
							d, b, calls := worn(t, fresh)
							for _, x := range row {
								d.Fault(x, kind)
							}
							e := act.do(b)
							if e != api.OK && e != api.ErrIO || b.ReadOnly() != (e != api.OK && act.calls != nil) {
								t.Fatal(row, e, b.ReadOnly())
							}
							if e != api.OK {
								refused++
							} else if calls = append(calls, act.calls...); act.calls == nil {
								renewed(t, d)
							}
							wantSame(t, b, newModel(short.Retention, calls...), row, kind, e)
							wantErrno(t, do(b, call{}).e, api.OK)
							wantSame(t, opened(t, d, short), newModel(short.Retention, calls...), "opened anew", row, kind, e)
							for range 5 {
								d.SyncDir() // what waits still, strikes here
							}
							goesOn(t, d, b, calls, row, kind)
						}
					}
				}
				if refused < 8*min(n, 2) {
					t.Fatal("too few refusals", refused, n)
				}
			})
		}
	}
}

// P10.2 to P10.4, P10.8: a disk that is full at any byte.
func TestFull(t *testing.T) {
	for name, act := range acts() {
		for _, fresh := range []bool{false, true} {
			t.Run(fmt.Sprint(name, fresh), func(t *testing.T) {
				t.Parallel()
				refused := 0
				for left := 0; ; left += 1 + left/40 {
					d, b, calls := worn(t, fresh)
					d.SetCapacity(d.Used() + left)
					e := act.do(b)
					if e == api.OK {
						wantSame(t, b, newModel(short.Retention, append(calls, act.calls...)...), left)
						if act.calls == nil {
							tidy(t, d, b, short)
						}
						break
					}
					refused++
					wantErrno(t, e, api.ErrFull)
					if b.ReadOnly() != (act.calls != nil) {
						t.Fatal("read-only", b.ReadOnly())
					}
					wantErrno(t, do(b, call{}).e, api.OK)
					wantSame(t, b, newModel(short.Retention, calls...), left)
					wantSame(t, opened(t, d, short), newModel(short.Retention, calls...), "opened anew", left)
					if left%3 == 0 {
						d.Crash([]int{left, left, 2, left, 1, left, 4, left})
						b = opened(t, d, short)
						wantSame(t, b, newModel(short.Retention, calls...), "behind a crash", left)
					}
					d.SetCapacity(room)
					goesOn(t, d, b, calls, left)
				}
				if refused < 10 {
					t.Fatal("too few refusals", refused)
				}
			})
		}
	}
}

// P10.2, P10.7: of several calls that are refused at most one is there behind a crash, and none that was refused ahead of one that was OK.
func TestRefusedInARow(t *testing.T) {
	rows := []call{
		{batch: []api.Point{point("a=1", 240, 1), point("c=3", 240, 1)}, states: set("k=1")},
		{batch: []api.Point{point("a=1", 240, 2), point("b=1", 240, 2)}, states: set("k=2")},
		deletes(0, 500, is("a", "1")),
		sets("k=4", "l=4"),
	}
	met := map[int]int{}
	for stop := range 12 {
		for _, cuts := range cutRows() {
			d, b, calls := worn(t, false)
			d.Fault(1, 1)
			wantErrno(t, do(b, appends(point("c=3", 300, 1))).e, api.ErrIO)
			d.Stop(stop)
			p := possible{now: calls}
			for _, c := range rows {
				if e := do(b, c).e; e == api.OK {
					p.now, p.others = p.with(c), nil
				} else {
					p.others = append(p.others, p.with(c))
				}
			}
			d.Crash(cuts)
			b = opened(t, d, short)
			ahead := len(p.now)
			p.settle(t, b, short.Retention, stop, cuts)
			met[len(p.now)-ahead]++
			goesOn(t, d, b, p.now, stop, cuts)
		}
	}
	if met[0] == 0 || met[1] == 0 || len(met) != 2 {
		t.Fatal(met)
	}
}

// P10.4, P10.7: faults in a row may leave a refused call in the log, for an Open without a Crash to find, and for a Crash to lose. Maintain, stopped anywhere, must not have done anything by then that only that call allows: the batch is there whole or not at all, and so is all that it makes too old.
func TestFoundButNotDurable(t *testing.T) {
	for name, c := range map[string]call{
		"late":         appends(point("c=3", 100, 3), point("b=1", 236, 4)),
		"late and far": appends(point("c=3", 100, 3), point("b=1", 290, 4)),
		"all too old":  appends(point("b=1", 2000, 4)),
		"deleted":      deletes(0, 235),
	} {
		met := map[bool]int{}
		for stop := range 60 {
			d, b, calls := worn(t, false)
			for i := range 4 {
				d.Fault(1+i, 1)
			}
			wantErrno(t, do(b, c).e, api.ErrIO)
			wantSame(t, b, newModel(short.Retention, calls...), name)
			b = opened(t, d, short)
			with := append(slices.Clone(calls), c)
			wantSame(t, b, newModel(short.Retention, with...), name, "found")
			d.Stop(stop)
			b.Maintain()
			wantSame(t, b, newModel(short.Retention, with...), name, stop)
			d.Crash(nil)
			b = opened(t, d, short)
			found := picture(b) == picture(newModel(short.Retention, with...))
			if met[found]++; found {
				calls = with
			}
			wantSame(t, b, newModel(short.Retention, calls...), name, stop)
		}
		if met[true] == 0 || met[false] == 0 {
			t.Fatal(name, met)
		}
	}
}

// P10.7: neither is that call found behind a Maintain that was OK, be there nothing else to do.
func TestFaultsThenMaintain(t *testing.T) {
	for _, c := range []call{appends(point("a=1", 12, 3)), sets("k=w"), deletes(0, 9)} {
		d := disk.New(room)
		b, m := opened(t, d, plain), newModel(plain.Retention)
		done(t, b, m, call{batch: []api.Point{point("a=1", 5, 1)}, states: set("k=v")})
		for i := range 4 {
			d.Fault(1+i, 1)
		}
		wantErrno(t, do(b, c).e, api.ErrIO)
		if picture(opened(t, d, plain)) == picture(m) {
			t.Fatal("it was taken back")
		}
		maintained(t, b)
		wantSame(t, b, m)
		wantSame(t, opened(t, d, plain), m, c)
		d.Crash([]int{-1, -1, -1, -1, -1})
		wantSame(t, opened(t, d, plain), m, c)
	}
}

// P10.2, P10.4: a disk that fails for long goes on to refuse, and all is told as it was.
func TestFailingForLong(t *testing.T) {
	d, b, calls := worn(t, false)
	m := newModel(short.Retention, calls...)
	for i := range 1000 {
		d.Fault(i, 1+i%2)
	}
	for i := range 20 {
		for _, c := range []call{appends(point("a=1", 240+i, 1)), sets("k=no"), deletes(0, 500)} {
			wantErrno(t, do(b, c).e, api.ErrIO)
			if !b.ReadOnly() {
				t.Fatal("not read-only")
			}
		}
		wantSame(t, b, m)
		wantErrno(t, b.Maintain(), api.ErrIO)
		wantSame(t, b, m)
	}
	d.Crash(nil)
	b = opened(t, d, short)
	goesOn(t, d, b, calls)
}

// P10.4: removing what is too old needs no room.
func TestFullOfOld(t *testing.T) {
	d := disk.New(room)
	s := api.Store{Block: 10, Retention: 50}
	b, m := opened(t, d, s), newModel(50)
	for i := range 40 {
		done(t, b, m, appends(point("a=1", i, float64(i))))
	}
	maintained(t, b)
	b = opened(t, d, s)
	done(t, b, m, appends(point("a=1", 100, 1)))
	was := len(b.Blocks())
	d.SetCapacity(0)
	wantErrno(t, do(b, appends(point("a=1", 101, 1))).e, api.ErrFull)
	used := d.Used()
	b.Maintain()
	if was == 0 || len(b.Blocks()) != 0 || d.Used() >= used {
		t.Fatal(was, b.Blocks(), used, d.Used())
	}
	d.SetCapacity(used)
	wantSame(t, b, m)
	done(t, b, m, appends(point("a=1", 101, 1)))
	wantSame(t, opened(t, d, s), m)
}

// P10.4: a store that is maintained does not grow with what it has forgotten, nor with what is said again and again.
func TestNoGrowth(t *testing.T) {
	for _, width := range []int{1, 10, 1 << 40} {
		s := api.Store{Block: width, Retention: 100}
		d := disk.New(room)
		b, m := opened(t, d, s), newModel(100)
		var used []int
		for i := range 300 {
			set := fmt.Sprint("a=", i/10)
			done(t, b, m, appends(point(set, i*10, float64(i)), point("b=1", i*10, 1)), sets(fmt.Sprint("k=", i)), deletes(i*10-20, i*10-10, is("b", "1")))
			if i%10 == 9 {
				maintained(t, b)
				used = append(used, d.Used())
			}
		}
		wantSame(t, b, m)
		if early, late := slices.Max(used[:10]), slices.Max(used[10:]); late > early+early/10 {
			t.Fatal(width, early, late, used)
		}
		if n := len(d.List("")); n > 30 {
			t.Fatal("files", n)
		}
	}
}
