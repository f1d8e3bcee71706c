package head_test

import (
	"math"
	"slices"
	"strconv"
	"testing"

	"vigil/api"
	"vigil/head"
)

func itoa(n int) string { return strconv.Itoa(n) }

// risen is a Head of one series a=1 with samples at 0 to below n.
func risen(t *testing.T, n int) *head.Head {
	t.Helper()
	var points []api.Point
	for i := range n {
		points = append(points, point("a=1", i, float64(i)))
	}
	return holding(t, 1<<40, points...)
}

func buried(h *head.Head, ends ...int) {
	for i := 0; i < len(ends); i += 2 {
		h.Bury([]api.Gone{{Labels: set("a=1"), Min: ends[i], Max: ends[i+1]}})
	}
}

// P7.5: what is deleted is told in as few pieces as can be.
func TestCutPieces(t *testing.T) {
	for _, x := range []struct {
		ends       []int
		mint, maxt int
		want       string
	}{
		{nil, 0, 10, ""},
		{[]int{2, 3, 4, 4, 7, 8}, 1, 9, "2-4 7-8 "},
		{[]int{7, 8, 4, 4, 2, 3}, 1, 9, "2-4 7-8 "},
		{[]int{2, 3, 5, 6}, 0, 10, "2-3 5-6 "},
		{[]int{2, 3, 5, 6, 4, 4}, 0, 10, "2-6 "},
		{[]int{2, 3, 5, 6, 3, 5}, 0, 10, "2-6 "},
		{[]int{2, 3, 5, 6, 0, 9}, 0, 10, "0-9 "},
		{[]int{2, 3, 5, 6, 8, 8, 1, 7}, 0, 10, "1-8 "},
		{[]int{2, 3, 5, 6, 8, 8, 3, 5}, 0, 10, "2-6 8-8 "},
		{[]int{2, 8, 4, 5}, 0, 10, "2-8 "},
		{[]int{4, 5, 4, 5}, 0, 10, "4-5 "},
		{[]int{8, 8, 0, 0}, 0, 10, "0-0 8-8 "},
		{[]int{0, 0, 8, 8, 4, 4}, 0, 10, "0-0 4-4 8-8 "},
		{[]int{2, 8}, 4, 6, "4-5 "},
		{[]int{2, 3, 5, 6}, 3, 6, "3-3 5-5 "},
		{[]int{2, 3, 5, 6}, 4, 5, ""},
		{[]int{2, 3, 5, 6}, 6, 3, ""},
		{[]int{-5, 2, 7, 50}, 0, 10, "0-2 7-9 "},
		{[]int{math.MinInt, math.MaxInt}, math.MinInt, math.MaxInt, "0-9 "},
	} {
		h := risen(t, 10)
		buried(h, x.ends...)
		for range 2 { // nothing is changed
			l, gone := h.Cut(x.mint, x.maxt)
			got := ""
			for _, y := range gone {
				if !slices.Equal(y.Labels, set("a=1")) {
					t.Fatal("labels", y)
				}
				got += itoa(y.Min) + "-" + itoa(y.Max) + " "
			}
			if got != x.want {
				t.Fatalf("%v, Cut %d to %d: %q, want %q", x.ends, x.mint, x.maxt, got, x.want)
			}
			count := 0
			for _, s := range l {
				count += len(s.Samples)
			}
			if want := max(0, min(x.maxt, 10)-max(x.mint, 0)); count != want {
				t.Fatalf("%v, Cut %d to %d: %d samples, want %d", x.ends, x.mint, x.maxt, count, want)
			}
		}
	}
}

// P7.5: Cut tells old samples, by series, up to below its end.
func TestCut(t *testing.T) {
	h := holding(t, 0, point("b=1", 1, 1), point("a=1", 2, 1), point("b=1", 3, 1), point("a=1", 4, 1), point("c=1", 9, 1))
	h.Bury([]api.Gone{{Labels: set("b=1"), Min: 1, Max: 1}, {Labels: set("a=1"), Min: 0, Max: 9}})
	for _, x := range []struct {
		mint, maxt int
		want, gone string
	}{
		{1, 4, "a=1: 2; b=1: 1 3", "{a=\"1\"} 2 2\n{b=\"1\"} 1 1\n"},
		{1, 5, "a=1: 2 4; b=1: 1 3", "{a=\"1\"} 2 4\n{b=\"1\"} 1 1\n"},
		{2, 4, "a=1: 2; b=1: 3", "{a=\"1\"} 2 2\n"},
		{9, 10, "c=1: 9", ""}, {9, 9, "", ""}, {10, 9, "", ""},
		{math.MinInt, math.MinInt, "", ""}, {math.MaxInt, math.MinInt, "", ""}, {math.MaxInt, math.MaxInt, "", ""},
		{math.MinInt, math.MaxInt, "a=1: 2 4; b=1: 1 3; c=1: 9", "{a=\"1\"} 2 4\n{b=\"1\"} 1 1\n"},
	} {
		l, gone := h.Cut(x.mint, x.maxt)
		if short(l) != x.want || speltGone(gone) != x.gone {
			t.Fatalf("Cut %d to %d: %q, %q", x.mint, x.maxt, short(l), speltGone(gone))
		}
	}
	greatest := holding(t, 0, point("a=1", api.MaxTime, 1))
	if l, _ := greatest.Cut(0, api.MaxTime); len(l) != 0 {
		t.Fatal("the end itself is told", l)
	}
	if l, _ := greatest.Cut(0, api.MaxTime+1); short(l) != "a=1: 9007199254740992" {
		t.Fatal("the greatest time", l)
	}
}

// P7.5: Drop leaves each series its last sample, and what is deleted deleted.
func TestDrop(t *testing.T) {
	for before := -1; before <= 12; before++ {
		h := risen(t, 10)
		h.Commit([]api.Point{point("b=1", 5, 1)})
		buried(h, 1, 2, 4, 6, 9, 9)
		m := newModel(1 << 40)
		for i := range 10 {
			m.take(set("a=1"), api.Sample{T: i, V: float64(i)})
		}
		m.take(set("b=1"), api.Sample{T: 5, V: 1})
		m.buryAll([]api.Gone{{Labels: set("a=1"), Min: 1, Max: 2}, {Labels: set("a=1"), Min: 4, Max: 6}, {Labels: set("a=1"), Min: 9, Max: 9}})
		want := min(max(before, 0), 9)
		if n := h.Drop(before); n != want || m.drop(before) != want {
			t.Fatalf("Drop %d: %d, want %d", before, n, want)
		}
		wantSame(t, h, m)
		if n := h.Drop(before); n != 0 {
			t.Fatalf("Drop %d once more: %d", before, n)
		}
		h.Commit([]api.Point{point("a=1", 10, 1)})
		m.commit([]api.Point{point("a=1", 10, 1)})
		buried(h, 10, 10)
		m.buryAll([]api.Gone{{Labels: set("a=1"), Min: 10, Max: 10}})
		wantSame(t, h, m)
	}
	h := risen(t, 3)
	if n := h.Drop(math.MinInt); n != 0 {
		t.Fatal("Drop of nothing", n)
	}
	if n := h.Drop(math.MaxInt); n != 2 {
		t.Fatal("Drop of all", n)
	}
	wantSelect(t, h, nil, 0, 9, "a=1: 2")
	if s, n := h.Count(); s != 1 || n != 1 || h.Newest() != 2 {
		t.Fatal("Count", s, n)
	}
	wantPlan(t, h, []api.Point{point("a=1", 1, 1), point("a=1", 2, 2), point("a=1", 3, 2)}, api.ErrOld, api.ErrSame, api.OK)
}

func row(times ...int) []api.Sample {
	var out []api.Sample
	for _, t := range times {
		out = append(out, api.Sample{T: t, V: float64(t)})
	}
	return out
}

// P7.5: which samples Load takes.
func TestLoad(t *testing.T) {
	for _, x := range []struct {
		why    string
		series []api.Series
		gone   []api.Gone
		want   string
		newest int
	}{
		{"nothing", nil, nil, "a=1: 10", 10},
		{"a new one, older than the horizon", []api.Series{{Labels: set("b=1"), Samples: row(-5, 3)}}, nil, "a=1: 10; b=1: -5 3", 10},
		{"at and below the last time", []api.Series{{Labels: set("a=1"), Samples: row(9, 10, 11)}}, nil, "a=1: 10 11", 11},
		{"all below", []api.Series{{Labels: set("a=1"), Samples: row(1, 2)}}, nil, "a=1: 10", 10},
		{"one series twice", []api.Series{{Labels: set("b=1"), Samples: row(3, 5)}, {Labels: set("b=1"), Samples: row(4, 5, 6)}}, nil, "a=1: 10; b=1: 3 5 6", 10},
		{"no set", []api.Series{{Labels: set("b="), Samples: row(3)}, {Labels: set("c=1 b=1"), Samples: row(3)}, {Samples: row(3)}}, nil, "a=1: 10", 10},
		{"times that stand still", []api.Series{{Labels: set("b=1"), Samples: row(3, 4, 4, 5)}}, nil, "a=1: 10; b=1: 3 4", 10},
		{"times that fall", []api.Series{{Labels: set("b=1"), Samples: row(3, 1, 4)}}, nil, "a=1: 10; b=1: 3", 10},
		{"times that fall below the last one", []api.Series{{Labels: set("a=1"), Samples: row(5, 3, 12)}}, nil, "a=1: 10", 10},
		{"a time too great", []api.Series{{Labels: set("b=1"), Samples: row(3, api.MaxTime+1, api.MaxTime+2)}}, nil, "a=1: 10; b=1: 3", 10},
		{"the greatest time", []api.Series{{Labels: set("b=1"), Samples: row(3, api.MaxTime)}}, nil, "a=1: 10; b=1: 3 9007199254740992", api.MaxTime},
		{"a time too small", []api.Series{{Labels: set("b=1"), Samples: row(-api.MaxTime-1, 3)}}, nil, "a=1: 10", 10},
		{"the least time", []api.Series{{Labels: set("b=1"), Samples: row(-api.MaxTime, 3)}}, nil, "a=1: 10; b=1: -9007199254740992 3", 10},
		{"no samples", []api.Series{{Labels: set("b=1")}}, nil, "a=1: 10", 10},
		{"what is gone of it", []api.Series{{Labels: set("b=1"), Samples: row(1, 2, 3)}}, []api.Gone{{Labels: set("b=1"), Min: 2, Max: 9}, {Labels: set("a=1"), Min: 10, Max: 10}, {Labels: set("c=1"), Min: 0, Max: 9}}, "a=1:; b=1: 1", 10},
	} {
		h := holding(t, 0, point("a=1", 10, 1))
		h.Load(x.series, x.gone)
		if got := short(told(h)); got != x.want || h.Newest() != x.newest {
			t.Fatalf("%s: %q, Newest %d, want %q, %d", x.why, got, h.Newest(), x.want, x.newest)
		}
	}
}

// P7.5: what is cut of one Head and loaded into another is told as it was.
func TestCutAndLoad(t *testing.T) {
	d := draws(7)
	for range 40 {
		w := world{low: -10, span: 40}
		h, m := head.New(1<<40), newModel(1<<40)
		for range 12 {
			step(t, &d, w, h, m)
		}
		x := head.New(1 << 40)
		x.Load(h.Cut(math.MinInt, math.MaxInt))
		wantSame(t, x, m)
	}
}

// P7.6: Count has deleted and old samples too; All tells series without any.
func TestCountAndAll(t *testing.T) {
	h := holding(t, 0, point("b=1", 1, 1), point("a=1", 2, 2), point("b=1", 3, 3), point("c=1", 50, 1))
	h.Bury([]api.Gone{{Labels: set("a=1"), Min: 0, Max: 9}})
	if s, n := h.Count(); s != 3 || n != 4 {
		t.Fatal("Count", s, n)
	}
	if got := short(told(h)); got != "a=1:; b=1: 1 3; c=1: 50" {
		t.Fatal("All", got)
	}
	all := h.All()
	for stop := 1; stop <= 4; stop++ {
		n := 0
		for range all {
			if n++; n == stop {
				break
			}
		}
		if n != min(stop, 3) {
			t.Fatal("stopped at", stop, n)
		}
	}
	// It tells what there is when it is ranged over, not when it was made.
	h.Commit([]api.Point{point("a=0", 51, 1), point("c=1", 51, 1)})
	h.Bury([]api.Gone{{Labels: set("b=1"), Min: 3, Max: 3}})
	want := "a=0: 51; a=1:; b=1: 1; c=1: 50 51"
	var got []api.Series
	for s := range all {
		got = append(got, s)
	}
	if short(got) != want {
		t.Fatal("All", short(got))
	}
}

// P7.6: what is changed while All is ranged over is told by the next range alone.
func TestAllWhileChanged(t *testing.T) {
	for _, change := range []func(h *head.Head){
		func(h *head.Head) { h.Drop(100) },
		func(h *head.Head) { h.Delete(nil, 0, 100) },
		func(h *head.Head) { buried(h, 2, 2, 6, 6, 8, 8) },
		func(h *head.Head) {
			h.Commit([]api.Point{point("a=1", 20, 1), point("a=0", 20, 1), point("b=1", 21, 1)})
		},
	} {
		h := risen(t, 10)
		h.Commit([]api.Point{point("__name__=x", 3, 1), point("a=2", 4, 1)})
		buried(h, 4, 4)
		want := "__name__=x: 3; a=1: 0 1 2 3 5 6 7 8 9; a=2: 4"
		var got []api.Series
		for s := range h.All() {
			change(h)
			got = append(got, s)
		}
		if short(got) != want {
			t.Fatal("All", short(got))
		}
		if short(told(h)) == want {
			t.Fatal("nothing was changed")
		}
	}
}
