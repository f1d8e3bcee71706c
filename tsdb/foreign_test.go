package tsdb_test

import (
	"fmt"
	"math/rand"
	"slices"
	"testing"

	"vigil/api"
	"vigil/block"
	"vigil/disk"
	"vigil/wal"
)

// P10.1: records that no DB wrote, and cut ones of a DB's own, are passed by.
func TestForeignRecords(t *testing.T) {
	d := disk.New(room)
	b, m := opened(t, d, plain), newModel(plain.Retention)
	done(t, b, m, call{batch: []api.Point{point("a=1", 5, 1), point("b=1", 6, 2)}, states: set("k=v")}, deletes(0, 5))
	other := disk.New(room)
	x := opened(t, other, plain)
	do(x, call{batch: []api.Point{point("a=1", 500, 1), point("z=1", 600, 2)}, states: set("k=other", "z=1")})
	do(x, deletes(0, 700))
	do(x, appends(point("a=1", 800, 1)))
	_, records, _ := wal.Open(other)
	log, _, _ := wal.Open(d)
	strange := [][]byte{nil, {0}, {0, 0}, {1}, {255}, []byte("any text"), {0, 1, 1, 1, 'a', 1, '1', 0}, {255, 255, 255, 255, 255, 255, 255, 255, 255, 1}, {0, 255, 255, 255, 255, 255, 255, 255, 255, 127}, {3, 'x', 'y', 'z', 0, 0}, {3, 'x', 'y', 'z', 0, 1, 1, 'k', 1, '!'}}
	for _, raw := range records {
		for n := range raw {
			strange = append(strange, raw[:n])
		}
		strange = append(strange, append(slices.Clone(raw), 0))
	}
	for _, raw := range strange {
		wantErrno(t, log.Append(raw), api.OK)
	}
	b = opened(t, d, plain)
	wantSame(t, b, m)
	done(t, b, m, appends(point("a=1", 90, 1)))
	maintained(t, b)
	wantSame(t, b, m)
	renewed(t, d)
	wantSame(t, opened(t, d, plain), m)
}

// Any bytes as a record neither panic nor go on for ever.
func TestAnyRecords(t *testing.T) {
	r := rand.New(rand.NewSource(1))
	d := disk.New(room)
	b := opened(t, d, plain)
	b.Append([]api.Point{point("a=1", 5, 1), point("a=1", 95, 1), point("b=1", 6, 2)}, set("k=v", "l=w"))
	maintained(t, b)
	b.Append([]api.Point{point("a=1", 105, 1)}, set("k=w"))
	b.Delete(nil, 0, 5)
	_, records, _ := wal.Open(d)
	for range 3000 {
		raw := slices.Clone(records[r.Intn(len(records))])
		for range 1 + r.Intn(3) {
			raw[r.Intn(len(raw))] = byte(r.Intn(256))
		}
		other := disk.New(room)
		log, _, _ := wal.Open(other)
		log.Append(raw)
		x := opened(t, other, plain)
		was := picture(x)
		maintained(t, x)
		if now := picture(x); now != was {
			t.Fatal(raw, was, now)
		}
		if now := picture(opened(t, other, plain)); now != was {
			t.Fatal(raw, was, now)
		}
	}
}

// lone lays a block.
func lone(t *testing.T, d *disk.Disk, m api.Meta, series []api.Series, gone ...api.Gone) {
	t.Helper()
	wantErrno(t, block.Write(d, m, series, gone), api.OK)
}

// P10.1: blocks count without a log too: their samples, their last ones, the newest time; what a block says to be deleted is deleted of it alone.
func TestBlocksAlone(t *testing.T) {
	d := disk.New(room)
	lone(t, d, api.Meta{Name: "zz", Min: 0, Max: 50, Level: 7}, []api.Series{{Labels: set("a=1"), Samples: []api.Sample{{T: 3, V: 1}, {T: 40, V: 2}}}, {Labels: set("a=2"), Samples: []api.Sample{{T: 4, V: 3}}}}, api.Gone{Labels: set("a=1"), Min: 30, Max: 45})
	lone(t, d, api.Meta{Name: "b1", Min: 0, Max: 50}, []api.Series{{Labels: set("a=1"), Samples: []api.Sample{{T: 35, V: 5}}}, {Labels: set("b=1"), Samples: []api.Sample{{T: 9, V: 6}}}})
	lone(t, d, api.Meta{Name: "empty", Min: -5, Max: 50}, nil)
	b := opened(t, d, plain)
	want := "[{[{a 1}] [{3 1} {35 5}]} {[{a 2}] [{4 3}]} {[{b 1}] [{9 6}]}]"
	wantTold(t, b, want)
	if got := fmt.Sprint(b.Blocks()); got != "[{empty -5 50 0} {b1 0 50 0} {zz 0 50 7}]" {
		t.Fatal(got)
	}
	if x, ok := b.Last(set("a=1")); !ok || x != (api.Sample{T: 40, V: 2}) || b.Newest() != 40 {
		t.Fatal(x, ok, b.Newest())
	}
	wantAnswer(t, b, appends(point("a=1", 40, 2), point("a=1", 40, 3), point("a=1", 39, 1), point("a=2", 4, 3), point("b=1", 9, 7)), "[16 13 12 16 13] 0 0")
	wantAnswer(t, b, deletes(0, 10, is("a", "1")), "[] 1 0")
	want = "[{[{a 1}] [{35 5}]} {[{a 2}] [{4 3}]} {[{b 1}] [{9 6}]}]"
	for range 2 {
		wantTold(t, b, want)
		maintained(t, b)
		wantTold(t, b, want)
		b = opened(t, d, plain)
	}
	wantAnswer(t, b, appends(point("a=1", 400, 2), point("b=1", 420, 2)), "[0 0] 0 0")
	maintained(t, b)
	want = "[{[{a 1}] [{35 5} {400 2}]} {[{a 2}] [{4 3}]} {[{b 1}] [{9 6} {420 2}]}]"
	wantTold(t, b, want)
	d.Crash(nil)
	b = opened(t, d, plain)
	wantTold(t, b, want)
	if x, ok := b.Last(set("a=2")); !ok || x.T != 4 {
		t.Fatal(x, ok)
	}
}

// P10.4: of blocks that have the same, one is kept; of samples that are deleted in one alone, the other.
func TestBlocksAlike(t *testing.T) {
	d := disk.New(room)
	l := []api.Series{{Labels: set("a=1"), Samples: []api.Sample{{T: 3, V: 1}, {T: 40, V: 2}}}}
	b := opened(t, d, plain)
	wantAnswer(t, b, appends(point("a=1", 40, 2)), "[0] 0 0")
	lone(t, d, api.Meta{Name: "x", Min: 0, Max: 50, Level: 3}, l)
	lone(t, d, api.Meta{Name: "y", Min: 0, Max: 50, Level: 3}, l)
	lone(t, d, api.Meta{Name: "z", Min: 0, Max: 60, Level: 4}, l, api.Gone{Labels: set("a=1"), Min: 0, Max: 45})
	for range 3 {
		b = opened(t, d, plain)
		wantTold(t, b, "[{[{a 1}] [{3 1} {40 2}]}]")
		maintained(t, b)
		wantTold(t, b, "[{[{a 1}] [{3 1} {40 2}]}]")
	}
	wantErrno(t, block.Remove(d, "x"), api.OK)
	wantErrno(t, block.Remove(d, "y"), api.OK)
	wantTold(t, opened(t, d, plain), "[{[{a 1}] [{40 2}]}]")
}

// P10.1, P10.4: a block whose bytes are spoilt is passed by, and hinders no other.
func TestSpoiltBlock(t *testing.T) {
	d := disk.New(room)
	b, m := opened(t, d, plain), newModel(plain.Retention)
	lone(t, d, api.Meta{Name: "b1", Min: 0, Max: 50}, []api.Series{{Labels: set("a=2"), Samples: []api.Sample{{T: 4, V: 3}}}})
	for _, file := range d.List("b1/") {
		d.Append(file, []byte("spoilt"))
		d.Sync(file)
	}
	b = opened(t, d, plain)
	wantSame(t, b, m)
	for i := range 30 {
		done(t, b, m, appends(point("a=1", i*5, 1)))
		if i%7 == 0 {
			maintained(t, b)
		}
	}
	wantSame(t, b, m)
	d.Crash(nil)
	b = opened(t, d, plain)
	wantSame(t, b, m)
	if len(b.Blocks()) == 0 || !slices.Contains(block.List(d), "b1") {
		t.Fatal(b.Blocks(), block.List(d))
	}
	for _, x := range b.Blocks() {
		if x.Name == "b1" {
			t.Fatal("a spoilt block is told")
		}
	}
}

// samplesOf is all samples that are told, as texts.
func samplesOf(x teller) []string {
	l, _ := x.Select(nil, -api.MaxTime, api.MaxTime)
	var out []string
	for _, s := range l {
		for _, sample := range s.Samples {
			out = append(out, fmt.Sprint(s.Labels, sample))
		}
	}
	return out
}

// A store that is opened with another Block tells the same; with another Retention what that lets it tell, and nothing that was deleted.
func TestOtherStore(t *testing.T) {
	seeds(t, 240, func(t *testing.T, seed int) {
		r := &script{Rand: rand.New(rand.NewSource(int64(seed)))}
		s := api.Store{Block: 10, Retention: []int{20, 60, 200}[seed%3]}
		d := disk.New(room)
		b, m, all := opened(t, d, s), newModel(s.Retention), newModel(1<<40)
		for range 50 {
			c := r.call()
			plan := m.Plan(c.batch)
			gone, _ := m.Select(c.ms, c.mint, c.maxt)
			done(t, b, m, c)
			for i, p := range c.batch {
				if plan[i] == api.OK {
					all.take(appends(p))
				}
			}
			for _, s := range gone {
				if c.deletes {
					all.Bury([]api.Gone{{Labels: s.Labels, Min: s.Samples[0].T, Max: s.Samples[len(s.Samples)-1].T}})
				}
			}
			if r.Intn(6) == 0 {
				maintained(t, b)
				s.Block = []int{1, 5, 10, 30, 1 << 40}[r.Intn(5)]
				b = opened(t, d, s)
				wantSame(t, b, m)
			}
		}
		if m.Newest() < -api.MaxTime {
			return
		}
		narrow := newModel(s.Retention / 2)
		narrow.Load(m.Cut(-api.MaxTime, api.MaxTime+1))
		narrow.states = m.states
		wantSame(t, opened(t, d, api.Store{Block: 3, Retention: s.Retention / 2}), narrow, seed)
		wide := opened(t, d, api.Store{Block: 10, Retention: s.Retention * 3})
		got, most := samplesOf(wide), samplesOf(all)
		for _, x := range samplesOf(m) {
			if !slices.Contains(got, x) {
				t.Fatal(seed, "lost", x)
			}
		}
		for _, x := range got {
			if !slices.Contains(most, x) {
				t.Fatal(seed, "deleted, or never there:", x)
			}
		}
		was := picture(wide)
		maintained(t, wide)
		if picture(wide) != was {
			t.Fatal(seed, "maintenance is seen")
		}
		for range 20 {
			do(wide, r.call())
			was = picture(wide)
			if r.Intn(2) == 0 {
				maintained(t, wide)
			}
			if r.Intn(2) == 0 {
				wide = opened(t, d, api.Store{Block: 10, Retention: s.Retention * 3})
			}
			if picture(wide) != was {
				t.Fatal(seed, "it is seen", was, picture(wide))
			}
		}
	})
}

// A series that was forgotten, and may have samples again where it had deleted ones: these are kept.
func TestLongerRetention(t *testing.T) {
	d := disk.New(room)
	b := opened(t, d, api.Store{Block: 10, Retention: 100})
	for i := range 101 {
		do(b, appends(point("c=3", i, 1), point("a=1", min(i, 31), 1)))
	}
	maintained(t, b)
	do(b, appends(point("c=3", 150, 1)))
	wantAnswer(t, b, appends(point("a=1", 88, 1)), "[0] 0 0")
	wantAnswer(t, b, deletes(0, 90, is("a", "1")), "[] 1 0")
	do(b, appends(point("c=3", 189, 1)))
	maintained(t, b)
	wide := api.Store{Block: 10, Retention: 1000}
	b = opened(t, d, wide)
	wantAnswer(t, b, appends(point("a=1", 40, 7)), "[0] 0 0")
	for range 2 {
		if l, _ := b.Select([]api.Matcher{is("a", "1")}, 0, 1000); fmt.Sprint(l) != "[{[{a 1}] [{40 7}]}]" {
			t.Fatal(l)
		}
		maintained(t, b)
		b = opened(t, d, wide)
	}
}
