package tsdb_test

import (
	"fmt"
	"math"
	"slices"
	"strings"
	"testing"

	"vigil/api"
	"vigil/disk"
	"vigil/tsdb"
)

// told writes what a DB tells of all times.
func told(b *tsdb.DB) string {
	l, e := b.Select(nil, -api.MaxTime, api.MaxTime)
	return fmt.Sprint(l, e)
}

func wantTold(t *testing.T, b *tsdb.DB, want string) {
	t.Helper()
	if got := told(b); got != want+" 0" {
		t.Fatal("told", got, "want", want)
	}
}

func wantAnswer(t *testing.T, b *tsdb.DB, c call, want string) {
	t.Helper()
	if got := do(b, c).String(); got != want {
		t.Fatal(c, "answered", got, "want", want)
	}
}

// The chapter's runs, one behind the other.
func TestRuns(t *testing.T) {
	d := disk.New(room)
	b := opened(t, d, plain)
	wantAnswer(t, b, call{batch: []api.Point{point("a=1", 5, 1), point("a=1", 5, 2)}, states: set("k=v")}, "[0 13] 0 0")
	b = opened(t, d, plain)
	wantTold(t, b, "[{[{a 1}] [{5 1}]}]")
	if b.State("k") != "v" || !slices.Equal(b.Keys(), []string{"k"}) {
		t.Fatal(b.State("k"), b.Keys())
	}
	d.Fault(0, 1)
	wantAnswer(t, b, appends(point("a=1", 6, 1)), "[0] 0 6")
	if !b.ReadOnly() {
		t.Fatal("not read-only")
	}
	wantTold(t, b, "[{[{a 1}] [{5 1}]}]")
	wantAnswer(t, b, appends(point("a=1", 6, 2)), "[0] 0 0")
	if b.ReadOnly() {
		t.Fatal("read-only")
	}
	wantAnswer(t, b, sets("k="), "[] 0 0")
	if b.State("k") != "" || len(b.Keys()) != 0 {
		t.Fatal(b.State("k"), b.Keys())
	}
	wantAnswer(t, b, deletes(0, 6, is("a", "1")), "[] 1 0")
	wantTold(t, b, "[]")
	wantAnswer(t, b, appends(point("a=1", 6, 9)), "[13] 0 0")
}

func TestRunOfBlocks(t *testing.T) {
	d := disk.New(room)
	b, m := opened(t, d, plain), newModel(plain.Retention)
	for i := range 101 {
		done(t, b, m, appends(point("a=1", i, float64(i))))
	}
	if l := b.Blocks(); len(l) != 0 {
		t.Fatal(l)
	}
	maintained(t, b)
	// To 90: 90 to 100 is not yet 5 behind.
	if l := fmt.Sprint(b.Blocks()); len(b.Blocks()) == 0 || b.Blocks()[0].Min != 0 || b.Blocks()[len(b.Blocks())-1].Max != 90 {
		t.Fatal(l)
	}
	tidy(t, d, b, plain)
	wantSame(t, b, m)
	wantSame(t, opened(t, d, plain), m)
}

func TestRunOfRetention(t *testing.T) {
	d := disk.New(room)
	s := api.Store{Block: 10, Retention: 20}
	b, m := opened(t, d, s), newModel(20)
	for i := range 101 {
		done(t, b, m, appends(point("a=1", i, 1)))
	}
	for range 2 {
		if l, _ := b.Select(nil, 0, 100); len(l) != 1 || len(l[0].Samples) != 21 || l[0].Samples[0].T != 80 || b.Horizon() != 80 {
			t.Fatal(l)
		}
		maintained(t, b)
		tidy(t, d, b, s)
	}
	wantSame(t, b, m)
}

// P10.1: what Open refuses, and what it takes.
func TestOpen(t *testing.T) {
	d := disk.New(room)
	for _, s := range []api.Store{{Block: 0, Retention: 5}, {Block: -1, Retention: 5}, {Block: math.MinInt, Retention: 5}, {Block: 5, Retention: -1}, {Block: 1, Retention: math.MinInt}, {Block: 0, Retention: -1}, {}} {
		if b, e := tsdb.Open(d, s); b != nil || e != api.ErrArg {
			t.Fatal(s, b, e)
		}
	}
	for _, s := range []api.Store{plain, {}} {
		if b, e := tsdb.Open(nil, s); b != nil || e != api.ErrArg {
			t.Fatal(s, b, e)
		}
	}
	if d.Ops() != 0 || len(d.List("")) != 0 {
		t.Fatal("a refused Open did something")
	}
	for _, s := range []api.Store{{Block: 1}, {Block: 1, Retention: math.MaxInt}, {Block: math.MaxInt, Retention: math.MaxInt}} {
		b := opened(t, d, s)
		wantSame(t, b, newModel(s.Retention))
		maintained(t, b)
		wantAnswer(t, b, call{}, "[] 0 0")
		wantAnswer(t, b, deletes(math.MinInt, math.MaxInt), "[] 0 0")
		if d.Ops() != 0 || len(b.Blocks()) != 0 || b.Newest() != -api.MaxTime-1 || b.Horizon() != -api.MaxTime-1 {
			t.Fatal("an empty store did something")
		}
	}
}

// P10.1: no disk hinders Open, since it does no operation (see opened).
func TestOpenOfAnyDisk(t *testing.T) {
	for _, wound := range []func(d *disk.Disk){
		func(d *disk.Disk) { d.Stop(0) },
		func(d *disk.Disk) { d.Fault(0, 1); d.Fault(1, 2) },
		func(d *disk.Disk) { d.SetCapacity(0) },
	} {
		d := disk.New(room)
		b, m := opened(t, d, plain), newModel(plain.Retention)
		done(t, b, m, appends(point("a=1", 5, 1), point("b=1", 7, 2)), appends(point("a=1", 90, 1)), sets("k=v"))
		maintained(t, b)
		done(t, b, m, deletes(0, 6, is("a", "1")), appends(point("a=2", 8, 1)))
		wound(d)
		b = opened(t, d, plain)
		wantSame(t, b, m)
		if len(b.Blocks()) != 1 {
			t.Fatal(b.Blocks())
		}
		d.Crash(nil)
		wantSame(t, opened(t, d, plain), m)
	}
}

// P10.2: where nothing is to be kept, nothing is done, whatever the disk is like.
func TestNothingToKeep(t *testing.T) {
	d := disk.New(room)
	b, m := opened(t, d, plain), newModel(plain.Retention)
	done(t, b, m, call{batch: []api.Point{point("a=1", 5, 1)}, states: set("k=v", "l=w")})
	nothing := []struct {
		call
		want string
	}{
		{call{}, "[] 0 0"},
		{appends(point("a=1", 5, 1), point("a=1", 5, 2), point("a=1", 4, 1)), "[16 13 12] 0 0"},
		{call{batch: []api.Point{point("", 6, 1), point("b=1 a=1", 6, 1), point("a=1", api.MaxTime+1, 1)}, states: set("k=v")}, "[2 2 9] 0 0"},
		{sets("k=v", "x="), "[] 0 0"},
		{sets("k=w", "k=", "k=v", "l=", "l=w", "x=1", "x="), "[] 0 0"},
		{deletes(0, 4), "[] 0 0"},
		{deletes(0, 9, is("a", "2")), "[] 0 0"},
	}
	for _, refusal := range []api.Errno{api.OK, api.ErrFull, api.ErrDead} {
		switch refusal {
		case api.ErrFull:
			d.SetCapacity(0)
		case api.ErrDead:
			d.Stop(0)
		}
		for _, x := range nothing {
			ops, was := d.Ops(), b.ReadOnly()
			wantAnswer(t, b, x.call, x.want)
			if d.Ops() != ops || b.ReadOnly() != was {
				t.Fatal("something was done", x)
			}
		}
		wantSame(t, b, m)
		if refusal != api.OK {
			wantAnswer(t, b, sets("k=x"), fmt.Sprint("[] 0 ", int(refusal)))
			wantAnswer(t, b, deletes(0, 9), fmt.Sprint("[] 0 ", int(refusal)))
			wantAnswer(t, b, appends(point("a=2", 9, 9), point("a=2", 9, 9)), fmt.Sprint("[0 16] 0 ", int(refusal)))
			if !b.ReadOnly() {
				t.Fatal("not read-only")
			}
		}
	}
}

// P10.2: of states the last one of a key counts, an empty text takes the key away, and all bytes may stand in both.
func TestStates(t *testing.T) {
	d := disk.New(room)
	b, m := opened(t, d, plain), newModel(plain.Retention)
	long := strings.Repeat("long ", 1<<15)
	for _, c := range []call{
		sets("k=1", "k=2", "l=1", "l="),
		sets("=no name", "\xff\x00=\xfe", "k=2"),
		sets("k=", "k=3"),
		sets("=", "\xff\x00=", "z=1", "b=2", "k=3"),
		{batch: []api.Point{point("a=1", 1, 1)}, states: set("b="+long, long+"=b", "k=")},
		{batch: []api.Point{point("a=1", 1, 1)}, states: set("b=2")},
	} {
		done(t, b, m, c)
		wantSame(t, b, m)
		wantSame(t, opened(t, d, plain), m)
		maintained(t, b)
		wantSame(t, b, m)
		b = opened(t, d, plain)
		wantSame(t, b, m)
	}
	if got := fmt.Sprintf("%.9q", b.Keys()); got != `["b" "long long" "z"]` {
		t.Fatal(got)
	}
}

// P10.2, P10.3: read-only from a refusal on to the next call that has something to keep, and is OK.
func TestReadOnly(t *testing.T) {
	refusals := []call{appends(point("a=1", 50, 1)), sets("k=w"), deletes(0, 9)}
	keepers := []call{appends(point("a=1", 60, 1)), sets("k=x"), deletes(0, 9)}
	for _, r := range refusals {
		for _, k := range keepers {
			d := disk.New(room)
			b, m := opened(t, d, plain), newModel(plain.Retention)
			done(t, b, m, appends(point("a=1", 5, 1), point("a=1", 30, 1)))
			d.Fault(0, 1)
			if got := do(b, r); got.e != api.ErrIO || got.n != 0 {
				t.Fatal(got)
			}
			done(t, b, m, call{}, appends(point("a=1", 5, 1)), deletes(6, 7))
			maintained(t, b)
			wantErrno(t, do(b, deletes(0, 9, api.Matcher{})).e, api.ErrArg)
			wantSame(t, b, m)
			if !b.ReadOnly() {
				t.Fatal("nothing was kept since", r)
			}
			done(t, b, m, k)
			if b.ReadOnly() {
				t.Fatal("it is over", r, k)
			}
			wantSame(t, b, m)
		}
	}
}

// P10.3: deletions of nothing, of one series, of several; in blocks, in the head, in both; and what comes behind them.
func TestDelete(t *testing.T) {
	d := disk.New(room)
	b, m := opened(t, d, plain), newModel(plain.Retention)
	for i := range 12 {
		done(t, b, m, appends(point("a=1", i*5, 1), point("a=1 b=1", i*5+1, 2), point("b=1", i*5+2, 3)))
	}
	for _, c := range []call{
		deletes(1000, 2000),
		deletes(9, 3),
		deletes(0, 4, is("a", "2")),
		deletes(0, 5, is("a", "1"), is("b", "")),
		deletes(0, 5, is("a", "1"), is("b", "")),
		deletes(2, 33, is("b", "1")),
		deletes(50, 57),
		deletes(math.MinInt, 56, is("b", "1"), is("a", "")),
	} {
		done(t, b, m, c)
		wantSame(t, b, m, c)
		maintained(t, b)
		wantSame(t, b, m, c)
		b = opened(t, d, plain)
		wantSame(t, b, m, c)
		d.Crash([]int{3, 1, 4, 1, 5})
		b = opened(t, d, plain)
		wantSame(t, b, m, c)
	}
	if len(b.Blocks()) == 0 {
		t.Fatal("all of it was in the head")
	}
	for _, ms := range [][]api.Matcher{{{Kind: 0}}, {{Kind: 5, Name: "a"}, {Kind: api.Match, Value: "("}}, {{Kind: api.Match, Name: "q", Value: "*"}}} {
		ops := d.Ops()
		_, want := m.Select(ms, 0, 9)
		if n, e := b.Delete(ms, 0, 99); n != 0 || e != want || e == api.OK || d.Ops() != ops {
			t.Fatal(n, e, want)
		}
	}
	// What is deleted counts as it would: for plans, the last sample and the newest time.
	done(t, b, m, deletes(math.MinInt, math.MaxInt))
	for range 2 {
		wantTold(t, b, "[]")
		wantSame(t, b, m)
		done(t, b, m, appends(point("a=1", 55, 1), point("a=1", 55, 2), point("a=1", 54, 1), point("b=1", 57, 3)))
		if x, ok := b.Last(set("a=1")); !ok || x.T != 55 || b.Newest() != 57 || len(b.Names()) != 0 {
			t.Fatal(x, ok, b.Newest())
		}
		maintained(t, b)
		b = opened(t, d, plain)
	}
	// A later sample is not deleted, be it of a time that was.
	done(t, b, m, appends(point("a=1", 56, 1), point("a=2", 3, 1), point("b=1", 58, 1)))
	if n, _ := count(b); n != 3 {
		t.Fatal(told(b))
	}
	maintained(t, b)
	wantSame(t, b, m)
	wantSame(t, opened(t, d, plain), m)
}

// P10.2, P10.5: samples at, ahead of and behind the horizon, with each retention; late series come to blocks that are there.
func TestHorizon(t *testing.T) {
	for _, retention := range []int{0, 1, 19, 20, 21, 1000} {
		s := api.Store{Block: 10, Retention: retention}
		d := disk.New(room)
		b, m := opened(t, d, s), newModel(retention)
		for i := range 30 {
			newest := i * 10
			done(t, b, m, appends(point("c=3", newest, 1), point("a=1", newest-retention, 2), point("a=2", newest-retention-1, 3), point("a=1 b=1", min(newest, newest-retention+1), 4)))
			if x, ok := b.Last(set("a=1")); !ok || x.T != newest-retention || b.Horizon() != newest-retention {
				t.Fatal(x, ok, b.Horizon())
			}
			wantSame(t, b, m, retention, i)
			if i%3 == 0 {
				maintained(t, b)
				tidy(t, d, b, s)
				wantSame(t, b, m, retention, i)
			}
			if i%4 == 0 {
				b = opened(t, d, s)
				wantSame(t, b, m, retention, i)
			}
		}
	}
}

// P10.4: the ends of all times, and widths that reach beyond them.
func TestEndsOfTimes(t *testing.T) {
	for _, width := range []int{1, 7, 1000, 1 << 52, 1 << 53, 1 << 62, math.MaxInt} {
		for _, retention := range []int{0, 5, 1 << 53, 1 << 54, math.MaxInt} {
			s := api.Store{Block: width, Retention: retention}
			d := disk.New(room)
			b, m := opened(t, d, s), newModel(retention)
			for _, at := range []int{-api.MaxTime, -api.MaxTime + 1, -api.MaxTime + 20, -3, 0, 1, 1 << 52, api.MaxTime - 20, api.MaxTime - 1, api.MaxTime} {
				done(t, b, m, appends(point("a=1", at, 1), point("a=2", at-1, 1), point("c=3", -api.MaxTime, float64(at)), point("b=1", at+1, 1)))
				wantSame(t, b, m, s, at)
				maintained(t, b)
				tidy(t, d, b, s)
				wantSame(t, b, m, s, at)
				b = opened(t, d, s)
				wantSame(t, b, m, s, at)
			}
			done(t, b, m, deletes(-api.MaxTime, -api.MaxTime), deletes(api.MaxTime, math.MaxInt), deletes(math.MinInt, math.MaxInt))
			maintained(t, b)
			wantSame(t, opened(t, d, s), m, s)
		}
	}
}

// P10.5: all bits of values are kept, in the log, in blocks, in joined ones; batches of many points too.
func TestBits(t *testing.T) {
	d := disk.New(room)
	b, m := opened(t, d, plain), newModel(plain.Retention)
	for i := range 40 {
		var batch []api.Point
		for j := range 300 {
			bits := uint64(0x7ff0000000000000) + uint64(i*300+j)*0x9e3779b97f4a7c15>>uint(j%64)
			batch = append(batch, api.Point{Labels: set("a=1", fmt.Sprint("b=", j%7)), T: i*43 + j/7, V: math.Float64frombits(bits)})
		}
		done(t, b, m, appends(batch...))
		if i%9 == 8 {
			maintained(t, b)
			tidy(t, d, b, plain)
			wantSame(t, b, m)
			b = opened(t, d, plain)
		}
	}
	wantSame(t, b, m)
}

// P10.5: All may be stopped anywhere, is ranged over again, and tells the store as it is when that begins, whatever is done meanwhile.
func TestAll(t *testing.T) {
	d := disk.New(room)
	b, m := opened(t, d, plain), newModel(plain.Retention)
	all := b.All()
	for range all {
		t.Fatal("nothing is there yet")
	}
	for i := range 10 {
		done(t, b, m, appends(point("a=1", i*10, 1), point("a=2", i*10, 2), point("b=1", i*10, 3), point("c=3", i*10, 4)))
	}
	for stop := range 5 {
		maintained(t, b)
		n := 0
		for range all {
			if n == stop {
				break
			}
			n++
		}
		if n != stop {
			t.Fatal(n, stop)
		}
	}
	want := told(b)
	var l []api.Series
	at := 1000
	for s := range all {
		l = append(l, s)
		done(t, b, m, appends(point("a=1", at, 1), point("d=4", at, 1)), deletes(0, 40, is("b", "1")))
		maintained(t, b)
		at += 100
	}
	if fmt.Sprint(l, " 0") != want {
		t.Fatal(l, want)
	}
	wantSame(t, b, m)
	inner := 0
	for range all {
		for range all {
			inner++
		}
	}
	if n, _ := count(b); inner != n*n {
		t.Fatal(inner, n)
	}
}

// R4, example 3: two DBs on two Disks know nothing of each other.
func TestTwoStores(t *testing.T) {
	d, other := disk.New(room), disk.New(room)
	b, m := opened(t, d, plain), newModel(plain.Retention)
	x, y := opened(t, other, api.Store{Block: 1, Retention: 5}), newModel(5)
	for i := range 20 {
		done(t, b, m, appends(point("a=1", i*7, 1)), sets("k=v"))
		done(t, x, y, appends(point("a=2", i*3, 2), point("a=1", i*3, 1)), sets("l=w"), deletes(0, i, is("a", "1")))
		if i%4 == 0 {
			other.Stop(0)
			x.Maintain()
			wantErrno(t, do(x, sets("l=x")).e, api.ErrDead)
			maintained(t, b)
			other.Crash(nil)
			x = opened(t, other, api.Store{Block: 1, Retention: 5})
			wantSame(t, x, y)
		}
		wantSame(t, b, m)
		if b.ReadOnly() {
			t.Fatal("read-only by another's fault")
		}
	}
	maintained(t, x)
	wantSame(t, b, m)
	wantSame(t, opened(t, d, plain), m)
}
