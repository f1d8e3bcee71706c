package tsdb_test

import (
	"fmt"
	"math"
	"math/rand"
	"testing"

	"vigil/api"
	"vigil/disk"
	"vigil/tsdb"
)

// resume lets a stopped disk go on without a Crash, and with all that pends: a later Stop takes the place of an earlier one (P1.6).
func resume(d *disk.Disk) { d.Stop(math.MaxInt) }

// anew opens a disk as bring makes it, and behind each of some Crashes of such a one.
func anew(t *testing.T, s api.Store, bring func() (*disk.Disk, *model), why ...any) {
	t.Helper()
	d, m := bring()
	wantSame(t, opened(t, d, s), m, append(why, "opened anew")...)
	for _, cuts := range cutRows() {
		d, m := bring()
		d.Crash(cuts)
		wantSame(t, opened(t, d, s), m, append(why, "behind a crash", cuts)...)
	}
}

// P10.3, P10.4, P10.7: a block is laid, but the disk stops ahead of its name's being durable; the name gets so by what is done on the disk later. What is deleted meanwhile stays so.
func TestNamedLater(t *testing.T) {
	s := api.Store{Block: 10, Retention: 400}
	for name, between := range map[string]func(d *disk.Disk, b *tsdb.DB) *tsdb.DB{
		"by Maintain":     func(d *disk.Disk, b *tsdb.DB) *tsdb.DB { return b },
		"by somebody":     func(d *disk.Disk, b *tsdb.DB) *tsdb.DB { d.SyncDir(); return b },
		"by the next log": func(d *disk.Disk, b *tsdb.DB) *tsdb.DB { return opened(t, d, s) },
		"by a fault's mending": func(d *disk.Disk, b *tsdb.DB) *tsdb.DB {
			d.Fault(0, 1)
			wantErrno(t, do(b, sets("k=v")).e, api.ErrIO)
			return b
		},
	} {
		anew(t, s, func() (*disk.Disk, *model) {
			d := disk.New(room)
			b, m := opened(t, d, s), newModel(s.Retention)
			done(t, b, m, appends(point("a=1", 0, 1), point("a=1", 5, 2), point("a=1", 100, 3)))
			d.Stop(4)
			wantErrno(t, b.Maintain(), api.ErrDead)
			resume(d)
			b = between(d, b)
			done(t, b, m, deletes(0, 50, is("a", "1")))
			maintained(t, b)
			wantTold(t, b, "[{[{a 1}] [{100 3}]}]")
			tidy(t, d, b, s)
			return d, m
		}, name)
	}
}

// P10.4: such a block is one of the store's from the next Maintain on, so that its samples are not laid a second time, and need no room.
func TestNamedLaterIsUsed(t *testing.T) {
	d := disk.New(room)
	b, m := opened(t, d, plain), newModel(plain.Retention)
	done(t, b, m, appends(point("a=1", 0, 1), point("a=1", 5, 2), point("a=1", 100, 3)))
	d.Stop(4)
	wantErrno(t, b.Maintain(), api.ErrDead)
	if l := b.Blocks(); len(l) != 0 {
		t.Fatal("told though it was refused:", l)
	}
	resume(d)
	used := d.Used()
	d.SetCapacity(used)
	b.Maintain()
	if l := fmt.Sprint(b.Blocks()); l != "[{b1 0 10 0}]" || d.Used() > used {
		t.Fatal(l, used, d.Used())
	}
	d.SetCapacity(room)
	maintained(t, b)
	tidy(t, d, b, plain)
	wantSame(t, b, m)
	wantSame(t, opened(t, d, plain), m)
}

// P10.4, P10.7: where nothing pends and nothing is to be done, Maintain asks nothing of the disk, be it stopped.
func TestNothingPends(t *testing.T) {
	d := disk.New(room)
	b, m := opened(t, d, plain), newModel(plain.Retention)
	done(t, b, m, appends(point("a=1", 0, 1), point("a=1", 100, 3)))
	maintained(t, b)
	d.Stop(0)
	for range 2 {
		ops := d.Ops()
		maintained(t, b)
		if d.Ops() != ops {
			t.Fatal(d.Ops() - ops)
		}
		b = opened(t, d, plain)
	}
	wantSame(t, b, m)
}

// P10.2 to P10.4, P10.7: a stop at each operation of Append, Delete and Maintain, behind which the disk goes on, with the same DB or another one; then Deletes and a Maintain, and all is told as it was, by whoever opens it.
func TestStopsAndGoesOn(t *testing.T) {
	for name, act := range acts() {
		for kind := range 4 {
			again := kind&1 > 0
			fresh := kind&2 > 0
			t.Run(fmt.Sprint(name, kind), func(t *testing.T) {
				t.Parallel()
				for stop := range operations(t, fresh, act.do) + 1 {
					for i, gone := range [][]call{{deletes(0, 500)}, {deletes(0, 231, is("a", "1"))}, {deletes(95, 120), deletes(150, 170, is("a", "2"))}, nil} {
						d, b, calls := worn(t, fresh)
						d.Stop(stop)
						e := act.do(b)
						resume(d)
						if again {
							b = opened(t, d, short)
						}
						p := possible{now: calls, others: [][]call{append(calls, act.calls...)}}
						p.settle(t, b, short.Retention, stop, e)
						m := newModel(short.Retention, p.now...)
						done(t, b, m, gone...)
						maintained(t, b)
						tidy(t, d, b, short)
						wantSame(t, b, m, stop, i)
						wantSame(t, opened(t, d, short), m, "opened anew", stop, i)
						d.Crash([]int{stop, i, stop, 1, i})
						wantSame(t, opened(t, d, short), m, "behind a crash", stop, i)
					}
				}
			})
		}
	}
}

// P10.4, P10.7: several Maintains, each of which the disk stops, with Deletes between them.
func TestStopsInARow(t *testing.T) {
	for first := range 30 {
		t.Run(fmt.Sprint(first), func(t *testing.T) {
			t.Parallel()
			for second := range 30 {
				d, b, calls := worn(t, false)
				m := newModel(short.Retention, calls...)
				for i, stop := range []int{first, second, first + second} {
					d.Stop(stop)
					b.Maintain()
					resume(d)
					if (first+second+i)%3 == 0 {
						b = opened(t, d, short)
					}
					done(t, b, m, deletes(100+i*40, 125+i*40))
					wantSame(t, b, m, first, second, i)
				}
				maintained(t, b)
				tidy(t, d, b, short)
				wantSame(t, opened(t, d, short), m, "opened anew", first, second)
				d.Crash([]int{first, second, 3, first, 2, second})
				wantSame(t, opened(t, d, short), m, "behind a crash", first, second)
			}
		})
	}
}

// P10.3, P10.4, P10.7: any calls, and Maintains that the disk stops somewhere, behind which it goes on; none of the calls is refused.
func TestAnyStops(t *testing.T) {
	seeds(t, 1500, func(t *testing.T, seed int) {
		r := &script{Rand: rand.New(rand.NewSource(int64(seed)))}
		s := api.Store{Block: []int{1, 5, 10}[seed%3], Retention: []int{60, 200, 1 << 40}[r.Intn(3)]}
		d := disk.New(room)
		b, m := opened(t, d, s), newModel(s.Retention)
		for step := range 40 {
			switch r.Intn(12) {
			case 0, 1, 2:
				d.Stop(r.Intn(30))
				b.Maintain()
				resume(d)
			case 3, 4:
				maintained(t, b)
				tidy(t, d, b, s)
			case 5:
				b = opened(t, d, s)
			case 6:
				d.Crash(r.cuts())
				b = opened(t, d, s)
			case 7:
				done(t, b, m, r.delete())
			default:
				done(t, b, m, r.append())
			}
			wantSame(t, b, m, seed, step, s)
		}
	})
}
