package compact_test

import (
	"fmt"
	"iter"
	"math"
	"slices"
	"testing"

	"vigil/api"
	"vigil/compact"
)

func merged(l ...[]api.Series) []api.Series { return compact.Collect(compact.Merge(l...)) }

func list(l ...api.Series) []api.Series { return l }

// P9.4: the chapter's run and example, and each edge by itself.
func TestMerge(t *testing.T) {
	wantSeries(t, "run", merged(list(row("a=1", 1, 1, 3, 3)), list(row("a=1", 2, 2, 3, 9))), row("a=1", 1, 1, 2, 2, 3, 3))
	wantSeries(t, "nothing", merged())
	wantSeries(t, "nil lists", merged(nil, nil, nil))
	wantSeries(t, "empty lists", merged(list(), nil, list(row("a=1", 1, 1)), list()), row("a=1", 1, 1))
	wantSeries(t, "a series without samples", merged(list(row("a=1")), list(row("a=1"), row("a=2"))), row("a=1"), row("a=2"))
	wantSeries(t, "a series without labels", merged(list(row("a=1", 1, 1)), list(row("", 2, 2))), row("", 2, 2), row("a=1", 1, 1))
	wantSeries(t, "samples of one list alone", merged(list(row("a=1")), list(row("a=1", 4, 4)), list(row("a=1"))), row("a=1", 4, 4))
	wantSeries(t, "one list behind the other", merged(list(row("a=1", 1, 1, 2, 2)), list(row("a=1", 3, 3, 4, 4))), row("a=1", 1, 1, 2, 2, 3, 3, 4, 4))
	wantSeries(t, "and ahead of it", merged(list(row("a=1", 3, 3, 4, 4)), list(row("a=1", 1, 1, 2, 2))), row("a=1", 1, 1, 2, 2, 3, 3, 4, 4))
	wantSeries(t, "below 0, at the ends", merged(list(row("a=1", -api.MaxTime, 1, api.MaxTime, 2)), list(row("a=1", -api.MaxTime, 3, -1, 4, api.MaxTime, 5))), row("a=1", -api.MaxTime, 1, -1, 4, api.MaxTime, 2))
}

// P9.4: series rise by labels, whichever list they come from, and however the lists are.
func TestMergeOrder(t *testing.T) {
	a := list(row("b=1", 1, 1), row("a=1", 2, 2), row("a=10", 3, 3))
	b := list(row("a=2", 4, 4), row("a=1 b=1", 5, 5), row("b=1", 6, 6), row("", 7, 7), row("c=1", 8, 8))
	want := list(row("", 7, 7), row("a=1", 2, 2), row("a=1 b=1", 5, 5), row("a=10", 3, 3), row("a=2", 4, 4), row("b=1", 1, 1, 6, 6), row("c=1", 8, 8))
	wantSeries(t, "a, b", merged(a, b), want...)
	wantSeries(t, "b, a", merged(b, a), want...)
	wantSeries(t, "in one list", merged(slices.Concat(a, b)), want...)
	var each [][]api.Series
	for _, x := range slices.Concat(a, b) {
		each = append(each, list(x))
	}
	wantSeries(t, "each in a list of its own", merged(each...), want...)
}

// P9.4: of several samples of one time that of the first list, in it the first.
func TestMergeOneTime(t *testing.T) {
	wantSeries(t, "three lists", merged(list(row("a=1", 5, 1)), list(row("a=1", 5, 2, 6, 2)), list(row("a=1", 5, 3, 6, 3, 7, 3))), row("a=1", 5, 1, 6, 2, 7, 3))
	wantSeries(t, "within a series", merged(list(row("a=1", 3, 1, 1, 2, 3, 5, 1, 7))), row("a=1", 1, 2, 3, 1))
	wantSeries(t, "within a list", merged(list(row("a=1", 3, 1), row("a=2", 3, 9), row("a=1", 3, 2, 1, 2), row("a=1", 1, 3, 2, 3))), row("a=1", 1, 2, 2, 3, 3, 1), row("a=2", 3, 9))
	wantSeries(t, "the first list's last is ahead of the second one's first", merged(list(row("a=1", 1, 1), row("a=1", 2, 2)), list(row("a=1", 2, 9, 1, 9))), row("a=1", 1, 1, 2, 2))
	var l [][]api.Series
	for i := range 40 {
		l = append(l, list(row("a=1", 7, i, i, 100+i)))
	}
	want := row("a=1")
	for i := range 40 {
		want.Samples = append(want.Samples, api.Sample{T: i, V: float64(100 + i)})
	}
	want.Samples[7].V = 0
	wantSeries(t, "forty lists", merged(l...), want)
	var same []api.Series
	for i := range 40 {
		same = append(same, row("a=1", 7, i, 5, i))
	}
	wantSeries(t, "forty times in a list", merged(same), row("a=1", 5, 0, 7, 0))
	for i := range 40 {
		same[i].Labels = set(fmt.Sprintf("a=%d", i*i%3))
	}
	wantSeries(t, "forty times, out of order", merged(same), row("a=0", 5, 0, 7, 0), row("a=1", 5, 1, 7, 1))
}

// P9.4: values are kept bit by bit.
func TestMergeBits(t *testing.T) {
	var a, b api.Series
	for i, bits := range []uint64{api.StaleBits, 0x7ff0000000000001, 0x7ff8000000000001, 0xfff8000000000000, 1 << 63, 1, math.Float64bits(math.Inf(-1))} {
		x := api.Sample{T: i, V: math.Float64frombits(bits)}
		a.Samples = append(a.Samples, x)
		b.Samples = append(b.Samples, api.Sample{T: i + 10, V: x.V}, api.Sample{T: i, V: 1})
	}
	got := merged(list(a), list(b))
	if len(got) != 1 || len(got[0].Samples) != 14 {
		t.Fatal(got)
	}
	for i, x := range a.Samples {
		for _, at := range []int{i, i + 7} {
			if math.Float64bits(got[0].Samples[at].V) != math.Float64bits(x.V) {
				t.Fatalf("%x is %x", math.Float64bits(x.V), math.Float64bits(got[0].Samples[at].V))
			}
		}
	}
}

// world is lists of which some series are met in several, and several times in one.
func world() [][]api.Series {
	return [][]api.Series{
		list(row("a=1", 1, 1, 4, 1), row("b=1", 2, 1), row("a=1", 3, 1, 4, 2)),
		nil,
		list(row("c=1", 9, 2), row("d=1", 8, 2), row("a=2", 5, 2), row("b=1", 2, 2, 1, 2)),
		list(row("", 0, 3), row("a=1", 2, 3, 3, 9)),
	}
}

// P9.4: it may be stopped at any series, and ranged over again, also within itself.
func TestMergeStopped(t *testing.T) {
	all := compact.Merge(world()...)
	want := list(row("", 0, 3), row("a=1", 1, 1, 2, 3, 3, 1, 4, 1), row("a=2", 5, 2), row("b=1", 1, 2, 2, 1), row("c=1", 9, 2), row("d=1", 8, 2))
	for stop := 1; stop <= len(want); stop++ {
		var got []api.Series
		for x := range all {
			got = append(got, x)
			if len(got) == stop {
				break
			}
		}
		wantSeries(t, "stopped", got, want[:stop]...)
		wantSeries(t, "again", compact.Collect(all), want...)
	}
	n := 0
	for x := range all {
		wantSeries(t, "within itself", compact.Collect(all), want...)
		wantSeries(t, "outside of that", list(x), want[n])
		n++
	}
	for range compact.Merge() {
		t.Fatal("something of nothing")
	}
}

// P9.4: behind a stop nothing more is told, at whatever series it is.
func TestMergeAsksNoMore(t *testing.T) {
	for stop := 1; stop <= 6; stop++ {
		asked := 0
		compact.Merge(world()...)(func(api.Series) bool { asked++; return asked < stop })
		if asked != stop {
			t.Fatalf("stopped at %d, told %d", stop, asked)
		}
	}
}

// P9.4: what any function tells, in its order; nothing of none.
func TestCollect(t *testing.T) {
	l := list(row("b=1", 2, 1, 1, 1), row("a=1", 1, 1), row("b=1"))
	wantSeries(t, "as it is told", compact.Collect(slices.Values(l)), l...)
	wantSeries(t, "nothing", compact.Collect(func(func(api.Series) bool) {}))
	wantSeries(t, "nil", compact.Collect(nil))
	wantSeries(t, "a nil function", compact.Collect(iter.Seq[api.Series](nil)))
}

// R1: no call panics, whatever it is given.
func TestCollectOfOneThatPanics(t *testing.T) {
	for _, what := range []any{"no", fmt.Errorf("no"), 7} {
		got := compact.Collect(func(yield func(api.Series) bool) {
			yield(row("a=1", 1, 1))
			panic(what)
		})
		wantSeries(t, "ahead of the panic", got, row("a=1", 1, 1))
	}
}

// R1, R9: lists of labels that are no sets are merged without a panic.
func TestWrongLabels(t *testing.T) {
	wrong := list(row("b=1 a=1", 1, 1), row("a=1 a=1", 2, 2), row("=", 3, 3), row("a=", 4, 4), row("b=1 a=1", 1, 1))
	holes := []api.Gone{gone("b=1 a=1", 0, 9), gone("a=1 a=1", 0, 9), gone("=", 5, 0)}
	for range compact.Merge(wrong, wrong) {
	}
	compact.Less(wrong, holes)
	compact.Union(holes)
	compact.Span(wrong)
}

// P9.5: the least and greatest time of all samples, in whatever order.
func TestSpan(t *testing.T) {
	for _, x := range []struct {
		l          []api.Series
		mint, maxt int
		ok         bool
	}{
		{nil, 0, 0, false},
		{list(row("a=1"), row("a=2")), 0, 0, false},
		{list(row("a=1", 0, 5)), 0, 0, true},
		{list(row("a=1", 7, 5)), 7, 7, true},
		{list(row("a=1", -7, 5)), -7, -7, true},
		{list(row("a=1"), row("a=2", 4, 1, 9, 1), row("a=3", -3, 1)), -3, 9, true},
		{list(row("a=2", 9, 1, 4, 1, 6, 1)), 4, 9, true},
		{list(row("a=2", -9, 1, -4, 1, -6, 1), row("a=1")), -9, -4, true},
		{list(row("a=2", api.MaxTime, 1), row("a=1", -api.MaxTime, 1)), -api.MaxTime, api.MaxTime, true},
	} {
		mint, maxt, ok := compact.Span(x.l)
		if mint != x.mint || maxt != x.maxt || ok != x.ok {
			t.Fatalf("%v: %d %d %v", x.l, mint, maxt, ok)
		}
	}
}

// R1: calls end in good time, of many lists too.
func TestMergeOfMany(t *testing.T) {
	var l [][]api.Series
	for i := range 20000 {
		l = append(l, list(row(fmt.Sprintf("a=%d", i%7), i, i), row("b=1", i, i)))
	}
	got := merged(l...)
	if len(got) != 8 || len(got[7].Samples) != 20000 || len(got[0].Samples) != 2858 {
		t.Fatal(len(got))
	}
	wantSeries(t, "as one list", merged(slices.Concat(l...)), got...)
}
