package tsdb_test

import (
	"cmp"
	"fmt"
	"slices"
	"testing"

	"vigil/api"
	"vigil/block"
	"vigil/compact"
	"vigil/disk"
	"vigil/tsdb"
	"vigil/wal"
)

// tidy asks what Maintain has left: nothing is to be done, the blocks are those of the disk, right, and no two of them have one sample.
func tidy(t *testing.T, d *disk.Disk, b *tsdb.DB, s api.Store) {
	t.Helper()
	metas := b.Blocks()
	if l := compact.Plan(metas, b.Newest(), s.Block); len(l) > 0 {
		t.Fatal("not joined:", l, metas)
	}
	if l := compact.Removed(metas, b.Horizon()); len(l) > 0 {
		t.Fatal("not removed:", l, metas)
	}
	if !slices.IsSortedFunc(metas, func(x, y api.Meta) int {
		return cmp.Or(cmp.Compare(x.Min, y.Min), cmp.Compare(x.Name, y.Name))
	}) {
		t.Fatal("not rising:", metas)
	}
	var names []string
	held := map[string]string{}
	for _, m := range metas {
		names = append(names, m.Name)
		x, e := block.Open(d, m.Name)
		if e != api.OK || x.Meta() != m {
			t.Fatal("not as it lies on the disk:", m, e)
		}
		if len(x.Series()) == 0 {
			t.Fatal("a block of nothing:", m)
		}
		for s := range x.All() {
			for _, sample := range s.Samples {
				key := fmt.Sprint(s.Labels, sample.T)
				if held[key] != "" {
					t.Fatal("in two blocks:", key, held[key], m.Name)
				}
				held[key] = m.Name
			}
		}
	}
	slices.Sort(names)
	if l := block.List(d); !slices.Equal(l, names) {
		t.Fatal("the disk has other blocks:", l, names)
	}
	ripe(t, b, s, held)
	renewed(t, d)
	ops := d.Ops()
	if e := b.Maintain(); e != api.OK || d.Ops() != ops {
		t.Fatal("nothing was to be done:", e, d.Ops()-ops)
	}
}

// ripe asks that all samples are in blocks that are old enough for them.
func ripe(t *testing.T, b *tsdb.DB, s api.Store, held map[string]string) {
	t.Helper()
	for x := range b.All() {
		for _, sample := range x.Samples {
			old := len(compact.Cuts([]int{sample.T}, b.Newest(), s.Block)) > 0
			if held[fmt.Sprint(x.Labels, sample.T)] == "" && old {
				t.Fatal("in no block, but old enough:", x.Labels, sample)
			}
		}
	}
}

// renewed asks that the log was begun anew: it has one record, if any.
func renewed(t *testing.T, d *disk.Disk) {
	t.Helper()
	if log, _, _ := wal.Open(d); log.Count() > 1 {
		t.Fatal("the log was not begun anew:", log.Count())
	}
}

// P10.4: what has gone to a block is in the log no more, but for the last sample.
func TestLogHasTheRest(t *testing.T) {
	d := disk.New(room)
	b, m := opened(t, d, api.Store{Block: 1000, Retention: 1 << 40}), newModel(1<<40)
	batch := []api.Point{point("b=1", 2000, 1)}
	for i := range 900 {
		batch = append(batch, point("a=1", i, 1/float64(i+1)))
	}
	done(t, b, m, appends(batch...))
	maintained(t, b)
	if log, _, _ := wal.Open(d); log.Bytes() > 150 {
		t.Fatal(log.Bytes())
	}
	wantSame(t, b, m)
	wantSame(t, opened(t, d, plain), m)
}

// P10.4: the log does not grow with states that are said anew, nor with pieces that hide nothing any more.
func TestLogDoesNotGrow(t *testing.T) {
	d := disk.New(room)
	b, m := opened(t, d, plain), newModel(plain.Retention)
	for i := range 300 {
		done(t, b, m, sets(fmt.Sprint("k=", 1000+i)))
	}
	d.SetCapacity(d.Used())
	wantErrno(t, b.Maintain(), api.ErrFull)
	d.SetCapacity(room)
	d.Stop(0)
	wantErrno(t, b.Maintain(), api.ErrDead)
	d.Crash(nil)
	b = opened(t, d, plain)
	maintained(t, b)
	if log, _, _ := wal.Open(d); log.Bytes() > 20 {
		t.Fatal("states:", log.Bytes())
	}
	if _, _, unsure := b.Held(); unsure {
		t.Fatal("a log that was begun anew is durable")
	}
	for i := range 300 {
		done(t, b, m, appends(point("a=1", i*3, 1), point("a=2", i*3, 1)), deletes(i*3, i*3, is("a", fmt.Sprint(1+i%2))))
	}
	maintained(t, b)
	tidy(t, d, b, plain)
	if log, _, _ := wal.Open(d); log.Bytes() > 300 {
		t.Fatal("deleted pieces:", log.Bytes())
	}
	wantSame(t, b, m)
	wantSame(t, opened(t, d, plain), m)
}

// P10.4: a joined block has nothing that is too old when it is laid (at 90), though those that it is made of had.
func TestJoinForgets(t *testing.T) {
	d := disk.New(room)
	s := api.Store{Block: 10, Retention: 50}
	b, m := opened(t, d, s), newModel(s.Retention)
	for i := range 96 {
		done(t, b, m, appends(point("a=1", i, 1)))
		if i%5 == 0 {
			maintained(t, b)
		}
	}
	x, e := block.Open(d, b.Blocks()[0].Name)
	wantErrno(t, e, api.OK)
	if l := x.Series(); x.Meta().Level != 2 || x.Meta().Min != 30 || l[0].Samples[0].T != 40 {
		t.Fatal(b.Blocks(), l[0].Samples[0])
	}
	wantSame(t, b, m)
}

// What is kept in memory is no more than need be: behind Maintain the head has the young samples and the last ones, and no piece is deleted of samples that are no more.
func TestHeld(t *testing.T) {
	d := disk.New(room)
	b, m := opened(t, d, plain), newModel(plain.Retention)
	for i := range 50 {
		done(t, b, m, appends(point("a=1", i*3, 1), point("a=2", min(i, 20), 1)), deletes(i*3-30, i*3-29))
	}
	b = opened(t, d, plain)
	if samples, pieces, unsure := b.Held(); samples != 71 || pieces < 40 || !unsure {
		t.Fatal(samples, pieces, unsure)
	}
	maintained(t, b)
	// From 140 on: 141, 144, 147, and the last one of a=2.
	if samples, pieces, unsure := b.Held(); samples != 4 || pieces != 0 || unsure {
		t.Fatal(samples, pieces, unsure)
	}
	wantSame(t, b, m)
	// It is hidden in a block, and in what the head keeps.
	done(t, b, m, deletes(20, 20), deletes(144, 200))
	maintained(t, b)
	if samples, pieces, _ := b.Held(); samples != 3 || pieces != 2 {
		t.Fatal(samples, pieces)
	}
	wantSame(t, b, m)
}
