package head_test

import (
	"math"
	"slices"
	"strings"
	"testing"

	"vigil/api"
	"vigil/head"
)

// set is the label set of a text like "a=1 b=2".
func set(text string) []api.Label {
	var l []api.Label
	for _, x := range strings.Fields(text) {
		name, value, _ := strings.Cut(x, "=")
		l = append(l, api.Label{Name: name, Value: value})
	}
	return l
}

func point(l string, t int, v float64) api.Point { return api.Point{Labels: set(l), T: t, V: v} }

func matcher(kind int, name, value string) []api.Matcher {
	return []api.Matcher{{Kind: kind, Name: name, Value: value}}
}

// holding is a Head of that retention that has taken all these points.
func holding(t *testing.T, retention int, points ...api.Point) *head.Head {
	t.Helper()
	h := head.New(retention)
	if n := h.Commit(points); n != len(points) {
		t.Fatalf("Commit: %d of %d points", n, len(points))
	}
	return h
}

func wantPlan(t *testing.T, h *head.Head, batch []api.Point, want ...api.Errno) {
	t.Helper()
	for range 2 {
		if got := h.Plan(batch); !slices.Equal(got, want) {
			t.Fatalf("Plan of %v: %v, want %v", batch, got, want)
		}
	}
}

// wantSelect asks for the times of all series that are meant, as "a=1: 1 2; b=1: 3".
func wantSelect(t *testing.T, h *head.Head, ms []api.Matcher, mint, maxt int, want string) {
	t.Helper()
	if got := short(selected(t, h, ms, mint, maxt)); got != want {
		t.Fatalf("Select of %v, %d to %d: %q, want %q", ms, mint, maxt, got, want)
	}
}

// P7.1 to P7.4: the table of Runs.
func TestRuns(t *testing.T) {
	h := head.New(1000)
	wantPlan(t, h, []api.Point{point("a=1", 10, 1), point("a=1", 10, 1), point("a=1", 10, 2), point("a=1", 9, 1), point("", 1, 1)},
		api.OK, api.ErrSame, api.ErrTwice, api.ErrOld, api.ErrName)
	if n := h.Commit([]api.Point{point("a=1", 10, 1), point("a=1", 2000, 2)}); n != 2 {
		t.Fatal("Commit", n)
	}
	if got := spelt(selected(t, h, nil, -api.MaxTime, api.MaxTime)); got != "{a=\"1\"} 2000:4000000000000000\n" {
		t.Fatal("Select", got)
	}
	wantPlan(t, h, []api.Point{point("b=1", 999, 1)}, api.ErrOld)
	wantPlan(t, h, []api.Point{point("b=1", 1000, 1)}, api.OK)
	wantSelect(t, h, matcher(api.Match, "a", "1|2"), 0, api.MaxTime, "a=1: 2000")
	wantSelect(t, h, matcher(api.NotMatch, "a", "1"), 0, api.MaxTime, "")
	wantSelect(t, h, matcher(api.Equal, "b", ""), 0, api.MaxTime, "a=1: 2000")
	if l, e := h.Select(matcher(api.Match, "a", "("), 0, api.MaxTime); len(l) > 0 || e != api.ErrForm {
		t.Fatal("Select of a wrong expression", l, e)
	}
	if gone, e := h.Delete(matcher(api.Equal, "a", "1"), 0, api.MaxTime); e != api.OK || speltGone(gone) != "{a=\"1\"} 0 2000\n" {
		t.Fatal("Delete", gone, e)
	}
	wantSelect(t, h, nil, -api.MaxTime, api.MaxTime, "")
	wantPlan(t, h, []api.Point{point("a=1", 2000, 3)}, api.ErrTwice)
	if got := h.Values("a"); len(got) != 0 {
		t.Fatal("Values", got)
	}
}

// P7.1 to P7.3: the chapter's examples.
func TestExamples(t *testing.T) {
	h := holding(t, 0, point("a=1", 7, 1))
	wantSelect(t, h, matcher(api.Equal, "b", ""), 0, 9, "a=1: 7")
	wantSelect(t, h, matcher(api.Match, "b", ".*"), 0, 9, "a=1: 7")
	if h.Horizon() != 7 || h.Newest() != 7 {
		t.Fatal("Horizon", h.Horizon(), "Newest", h.Newest())
	}
	if n := h.Commit(nil); n != 0 || h.Newest() != 7 {
		t.Fatal("Commit of nothing", n)
	}
	wantSelect(t, h, nil, 0, 9, "a=1: 7")
}

// P7.1: what each Kind means, of a label that is there and of one that is not.
func TestMatches(t *testing.T) {
	l := set("a=1 b=xy")
	for _, x := range []struct {
		kind        int
		name, value string
		want        bool
	}{
		{api.Equal, "a", "1", true}, {api.Equal, "a", "2", false}, {api.Equal, "a", "", false}, {api.Equal, "c", "", true}, {api.Equal, "c", "1", false}, {api.Equal, "", "", true},
		{api.NotEqual, "a", "1", false}, {api.NotEqual, "a", "2", true}, {api.NotEqual, "a", "", true}, {api.NotEqual, "c", "", false}, {api.NotEqual, "c", "1", true},
		{api.Match, "b", "x.", true}, {api.Match, "b", "x", false}, {api.Match, "b", "y", false}, {api.Match, "b", "", false}, {api.Match, "c", "", true}, {api.Match, "c", "x*", true}, {api.Match, "c", ".+", false},
		{api.NotMatch, "b", "x.", false}, {api.NotMatch, "b", "x", true}, {api.NotMatch, "c", "", false}, {api.NotMatch, "c", ".+", true},
		{api.Equal, "b", "x.", false}, {api.NotEqual, "b", "x.", true}, {api.Equal, "a", "(", false}, {api.NotEqual, "a", "(", true},
	} {
		m := matcher(x.kind, x.name, x.value)
		if got, e := head.Matches(m, l); got != x.want || e != api.OK {
			t.Errorf("Matches of %v: %t, %d", m, got, e)
		}
		h := holding(t, 0, api.Point{Labels: l, T: 1})
		if got := selected(t, h, m, 1, 1); len(got) > 0 != x.want {
			t.Errorf("Select of %v: %v", m, got)
		}
	}
	for _, x := range []struct {
		ms   []api.Matcher
		want bool
	}{
		{nil, true},
		{slices.Concat(matcher(api.Equal, "a", "1"), matcher(api.Match, "b", "x.")), true},
		{slices.Concat(matcher(api.Equal, "a", "1"), matcher(api.Match, "b", "x")), false},
		{slices.Concat(matcher(api.Equal, "a", "2"), matcher(api.Match, "b", "x.")), false},
		{slices.Concat(matcher(api.Equal, "a", "1"), matcher(api.NotEqual, "a", "1")), false},
	} {
		if got, e := head.Matches(x.ms, l); got != x.want || e != api.OK {
			t.Errorf("Matches of %v: %t, %d", x.ms, got, e)
		}
	}
	if got, e := head.Matches(matcher(api.Equal, "a", ""), nil); !got || e != api.OK {
		t.Error("Matches of no labels", got, e)
	}
}

// P7.1: what is refused; a Kind that is none goes ahead of a wrong expression, wherever they stand.
func TestMatchesRefuses(t *testing.T) {
	wrong := matcher(api.Match, "a", "(")
	h := holding(t, 0, point("a=1", 1, 1))
	for _, x := range []struct {
		ms   []api.Matcher
		want api.Errno
	}{
		{matcher(0, "a", "1"), api.ErrArg}, {matcher(5, "a", "1"), api.ErrArg}, {matcher(-1, "a", "1"), api.ErrArg}, {matcher(math.MaxInt, "", ""), api.ErrArg}, {matcher(math.MinInt, "", ""), api.ErrArg},
		{wrong, api.ErrForm}, {matcher(api.NotMatch, "a", "a**"), api.ErrForm},
		{matcher(api.Match, "a", strings.Repeat("x", api.MaxRegex+1)), api.ErrForm},
		{matcher(api.NotMatch, "a", "(x{100}){100}"), api.ErrForm},
		{slices.Concat(wrong, matcher(9, "a", "1")), api.ErrArg},
		{slices.Concat(matcher(9, "a", "1"), wrong), api.ErrArg},
		{slices.Concat(matcher(api.Equal, "a", "2"), wrong), api.ErrForm},
		{slices.Concat(matcher(api.Equal, "a", "2"), matcher(0, "a", "1")), api.ErrArg},
	} {
		for _, l := range [][]api.Label{set("a=1"), nil} {
			if ok, e := head.Matches(x.ms, l); ok || e != x.want {
				t.Errorf("Matches of %v: %t, %d, want %d", x.ms, ok, e, x.want)
			}
		}
		for _, h := range []*head.Head{h, head.New(0)} {
			if l, e := h.Select(x.ms, 0, 9); len(l) > 0 || e != x.want {
				t.Errorf("Select of %v: %v, %d, want %d", x.ms, l, e, x.want)
			}
			if l, e := h.Delete(x.ms, 0, 9); len(l) > 0 || e != x.want {
				t.Errorf("Delete of %v: %v, %d, want %d", x.ms, l, e, x.want)
			}
		}
		wantSelect(t, h, nil, 0, 9, "a=1: 1")
	}
	if ok, e := head.Matches(matcher(api.Match, "a", strings.Repeat("x", api.MaxRegex)), set("a=1")); ok || e != api.OK {
		t.Error("the longest expression is refused", e)
	}
}

// P7.2: which labels a point may have.
func TestPlanLabels(t *testing.T) {
	h := head.New(0)
	var many []api.Label
	for i := range api.MaxLabels + 1 {
		many = append(many, api.Label{Name: "n" + string(rune('0'+i/10)) + string(rune('0'+i%10)), Value: "x"})
	}
	for _, x := range []struct {
		l    []api.Label
		want api.Errno
	}{
		{set("a=1"), api.OK}, {set("__name__=m:n a=1"), api.OK}, {many[:api.MaxLabels], api.OK},
		{nil, api.ErrName}, {[]api.Label{}, api.ErrName}, {set("a="), api.ErrName}, {set("b=1 a=1"), api.ErrName}, {set("a=1 a=1"), api.ErrName}, {set("a=1 a=2"), api.ErrName},
		{set("0=1"), api.ErrName}, {set("__name__=a-b"), api.ErrName}, {set("a=\xff"), api.ErrName}, {set("a=" + strings.Repeat("x", api.MaxLabel+1)), api.ErrName}, {many, api.ErrName},
	} {
		wantPlan(t, h, []api.Point{{Labels: x.l, T: 1, V: 1}}, x.want)
	}
	// What is named first goes ahead.
	wantPlan(t, h, []api.Point{{T: api.MaxTime + 1}}, api.ErrName)
}

// P7.2: the least and greatest times.
func TestPlanTimes(t *testing.T) {
	h := head.New(math.MaxInt)
	wantPlan(t, h, []api.Point{point("a=1", -api.MaxTime-1, 1), point("a=1", math.MinInt, 1), point("a=1", -api.MaxTime, 1), point("a=1", api.MaxTime+1, 1), point("a=1", math.MaxInt, 1), point("a=1", api.MaxTime, 1)},
		api.ErrLarge, api.ErrLarge, api.OK, api.ErrLarge, api.ErrLarge, api.OK)
	if n := h.Commit([]api.Point{point("a=1", -api.MaxTime, 1), point("a=1", api.MaxTime, 1), point("a=1", api.MaxTime+1, 1)}); n != 2 {
		t.Fatal("Commit", n)
	}
	wantSelect(t, h, nil, math.MinInt, math.MaxInt, "a=1: -9007199254740992 9007199254740992")
	if h.Newest() != api.MaxTime || h.Horizon() != -api.MaxTime-1 {
		t.Fatal("Newest", h.Newest(), "Horizon", h.Horizon())
	}
	// ErrLarge goes ahead of ErrOld.
	wantPlan(t, h, []api.Point{point("a=1", math.MinInt, 1), point("a=1", 5, 1)}, api.ErrLarge, api.ErrOld)
}

// P7.2: values at one time are alike if all their bits are.
func TestPlanBits(t *testing.T) {
	nan := math.Float64frombits
	for _, x := range []struct {
		a, b float64
		want api.Errno
	}{
		{1, 1, api.ErrSame}, {1, 2, api.ErrTwice}, {0, math.Copysign(0, -1), api.ErrTwice}, {math.Inf(1), math.Inf(1), api.ErrSame},
		{nan(0x7ff8000000000001), nan(0x7ff8000000000001), api.ErrSame}, {nan(0x7ff8000000000001), nan(0x7ff8000000000003), api.ErrTwice},
		{nan(api.StaleBits), nan(api.StaleBits), api.ErrSame}, {nan(api.StaleBits), nan(0x7ff8000000000001), api.ErrTwice},
	} {
		h := head.New(0)
		batch := []api.Point{point("a=1", 5, x.a), point("a=1", 5, x.b)}
		wantPlan(t, h, batch, api.OK, x.want)
		if n := h.Commit(batch); n != 1 {
			t.Errorf("Commit of %v: %d", batch, n)
		}
		wantPlan(t, h, batch[1:], x.want)
		if last, ok := h.Last(set("a=1")); !ok || math.Float64bits(last.V) != math.Float64bits(x.a) {
			t.Errorf("Last: %x", math.Float64bits(last.V))
		}
		if l := selected(t, h, nil, 5, 5); math.Float64bits(l[0].Samples[0].V) != math.Float64bits(x.a) {
			t.Errorf("Select: %v", l)
		}
	}
}

// P7.2: the horizon of all retentions, which points ahead in the batch move.
func TestHorizon(t *testing.T) {
	const never = -api.MaxTime - 1
	for _, x := range []struct{ retention, newest, want int }{
		{0, 100, 100}, {-1, 100, 100}, {math.MinInt, 100, 100}, {1, 100, 99}, {100, 100, 0}, {200, 100, -100},
		{api.MaxTime, 0, -api.MaxTime}, {api.MaxTime + 1, 0, never}, {api.MaxTime + 2, 0, never}, {math.MaxInt, 0, never},
		{2*api.MaxTime + 1, api.MaxTime, never}, {2 * api.MaxTime, api.MaxTime, -api.MaxTime}, {2*api.MaxTime + 2, api.MaxTime, never}, {math.MaxInt, api.MaxTime, never},
		{0, -api.MaxTime, -api.MaxTime}, {1, -api.MaxTime, never}, {2, -api.MaxTime, never}, {math.MaxInt, -api.MaxTime, never},
	} {
		h := head.New(x.retention)
		if h.Newest() != never || h.Horizon() != never {
			t.Fatalf("New(%d): Newest %d, Horizon %d", x.retention, h.Newest(), h.Horizon())
		}
		first := point("a=1", x.newest, 1)
		at, below := point("b=1", x.want, 1), point("b=1", x.want-1, 1)
		if x.want >= -api.MaxTime {
			if want := api.ErrOld; x.want > -api.MaxTime {
				wantPlan(t, h, []api.Point{below, first, below, at}, api.OK, api.OK, want, api.OK)
			}
			wantPlan(t, h, []api.Point{first, at}, api.OK, api.OK)
		}
		h.Commit([]api.Point{first})
		if h.Newest() != x.newest || h.Horizon() != x.want {
			t.Fatalf("New(%d), %d: Newest %d, Horizon %d", x.retention, x.newest, h.Newest(), h.Horizon())
		}
		if x.want > -api.MaxTime {
			wantPlan(t, h, []api.Point{below, at}, api.ErrOld, api.OK)
			h.Load([]api.Series{{Labels: set("b=1"), Samples: []api.Sample{{T: x.want - 1}, {T: x.want}}}}, nil)
			got := selected(t, h, matcher(api.Equal, "b", "1"), math.MinInt, math.MaxInt)
			if len(got) != 1 || len(got[0].Samples) != 1 || got[0].Samples[0].T != x.want {
				t.Fatalf("New(%d), %d: Select %v", x.retention, x.newest, got)
			}
		}
	}
}

// P7.2: a batch is planned as if what is OK of it were taken, and only that.
func TestPlanInOrder(t *testing.T) {
	h := head.New(10)
	batch := []api.Point{
		point("a=1", 20, 1), point("b=1", 9, 1), point("b=1", 10, 1), // the horizon is 10
		point("a=1", 15, 1), point("a=1", 20, 1), point("a=1", 20, 2), point("a=1", 21, 1), // 11
		point("a=1", 21, 1), point("b=1", 10, 1), point("b=1", 11, 2), point("b=1", 11, 3),
		point("", 1000, 1), point("c=1", api.MaxTime+1, 1), point("c=1", 11, 1), // what is refused moves nothing
	}
	want := []api.Errno{api.OK, api.ErrOld, api.OK, api.ErrOld, api.ErrSame, api.ErrTwice, api.OK, api.ErrSame, api.ErrOld, api.OK, api.ErrTwice, api.ErrName, api.ErrLarge, api.OK}
	wantPlan(t, h, batch, want...)
	if s, n := h.Count(); s != 0 || n != 0 || h.Newest() != -api.MaxTime-1 {
		t.Fatal("Plan has changed the Head", s, n)
	}
	if n := h.Commit(batch); n != 5 {
		t.Fatal("Commit", n)
	}
	wantSelect(t, h, nil, 0, 99, "a=1: 20 21; b=1: 11; c=1: 11")
	if s, n := h.Count(); s != 3 || n != 5 || h.Newest() != 21 || h.Horizon() != 11 {
		t.Fatal("Count", s, n, h.Newest())
	}
	if n := h.Commit(batch); n != 0 {
		t.Fatal("Commit once more", n)
	}
	if got := h.Plan(nil); len(got) != 0 {
		t.Fatal("Plan of nothing", got)
	}
}

// P7.3: from where to where Select tells, and what it leaves out.
func TestSelect(t *testing.T) {
	h := holding(t, 10, point("b=1", 1, 1), point("a=1", 10, 1), point("a=1 b=1", 11, 1), point("a=1", 12, 1), point("__name__=x", 14, 1), point("a=1", 20, 1))
	for _, x := range []struct {
		mint, maxt int
		want       string
	}{
		{math.MinInt, math.MaxInt, "__name__=x: 14; a=1: 10 12 20; a=1 b=1: 11"},
		{10, 20, "__name__=x: 14; a=1: 10 12 20; a=1 b=1: 11"},
		{11, 19, "__name__=x: 14; a=1: 12; a=1 b=1: 11"},
		{10, 10, "a=1: 10"}, {12, 12, "a=1: 12"}, {13, 13, ""}, {20, 20, "a=1: 20"}, {21, math.MaxInt, ""}, {0, 9, ""}, {1, 1, ""},
		{12, 10, ""}, {20, 10, ""}, {math.MaxInt, math.MinInt, ""}, {math.MaxInt, math.MaxInt, ""}, {math.MinInt, math.MinInt, ""},
	} {
		wantSelect(t, h, nil, x.mint, x.maxt, x.want)
	}
	wantSelect(t, h, slices.Concat(matcher(api.Equal, "a", "1"), matcher(api.NotEqual, "b", "1")), 0, 99, "a=1: 10 12 20")
	wantSelect(t, h, matcher(api.Equal, "b", "1"), 0, 99, "a=1 b=1: 11")
	if got := h.Names(); !slices.Equal(got, []string{"__name__", "a", "b"}) {
		t.Fatal("Names", got)
	}
	// The only series with b is older than the horizon now.
	h.Commit([]api.Point{point("a=2", 22, 1)})
	if got := h.Names(); !slices.Equal(got, []string{"__name__", "a"}) {
		t.Fatal("Names", got)
	}
	for name, want := range map[string][]string{"a": {"1", "2"}, "b": nil, "__name__": {"x"}, "": nil, "zz": nil} {
		if got := h.Values(name); !slices.Equal(got, want) {
			t.Fatalf("Values of %q: %q", name, got)
		}
	}
}

// P7.4: what Delete answers, and what is deleted for good.
func TestDelete(t *testing.T) {
	made := func() *head.Head {
		return holding(t, 10, point("a=1", 1, 1), point("a=2", 2, 1), point("b=1", 8, 1), point("a=2", 12, 1), point("a=1", 20, 1))
	}
	for _, x := range []struct {
		ms         []api.Matcher
		mint, maxt int
		gone, left string
	}{
		{nil, math.MinInt, math.MaxInt, "{a=\"1\"} -9223372036854775808 20\n{a=\"2\"} -9223372036854775808 12\n{b=\"1\"} -9223372036854775808 8\n", ""},
		{nil, 1, 12, "{a=\"1\"} 1 12\n{a=\"2\"} 1 12\n{b=\"1\"} 1 8\n", "a=1: 20"},
		{matcher(api.Equal, "a", "2"), 12, 12, "{a=\"2\"} 12 12\n", "a=1: 20"},
		{matcher(api.Equal, "a", "1"), 1, 1, "{a=\"1\"} 1 1\n", "a=1: 20; a=2: 12"}, // it is older than the horizon
		{matcher(api.Equal, "a", "1"), 2, 19, "", "a=1: 20; a=2: 12"},
		{matcher(api.Equal, "a", "1"), 21, 99, "", "a=1: 20; a=2: 12"},
		{matcher(api.Equal, "a", "3"), 0, 99, "", "a=1: 20; a=2: 12"},
		{nil, 12, 1, "", "a=1: 20; a=2: 12"},
		{nil, math.MaxInt, math.MinInt, "", "a=1: 20; a=2: 12"},
	} {
		h := made()
		for range 2 { // deleted or not
			gone, e := h.Delete(x.ms, x.mint, x.maxt)
			if e != api.OK || speltGone(gone) != x.gone {
				t.Fatalf("Delete of %v, %d to %d: %q, want %q", x.ms, x.mint, x.maxt, speltGone(gone), x.gone)
			}
			wantSelect(t, h, nil, 0, 99, x.left)
		}
		if s, n := h.Count(); s != 3 || n != 5 || h.Newest() != 20 {
			t.Fatal("Count", s, n, h.Newest())
		}
	}
}

// P7.4, P7.5: deleted samples count for Plan and Last; series come back.
func TestComeBack(t *testing.T) {
	h := holding(t, 1000, point("a=1", 10, 1), point("a=1", 20, 2))
	h.Delete(nil, 0, 99)
	if x, ok := h.Last(set("a=1")); !ok || x.T != 20 || x.V != 2 {
		t.Fatal("Last", x, ok)
	}
	wantPlan(t, h, []api.Point{point("a=1", 15, 1), point("a=1", 20, 2), point("a=1", 20, 1), point("a=1", 21, 1)}, api.ErrOld, api.ErrSame, api.ErrTwice, api.OK)
	if len(h.Names()) != 0 || len(h.Values("a")) != 0 {
		t.Fatal("a name of a series that is not told", h.Names(), h.Values("a"))
	}
	// What comes behind a piece that reached further is not deleted.
	h.Commit([]api.Point{point("a=1", 30, 3), point("a=1", 40, 4)})
	wantSelect(t, h, nil, 0, 99, "a=1: 30 40")
	if !slices.Equal(h.Names(), []string{"a"}) || !slices.Equal(h.Values("a"), []string{"1"}) {
		t.Fatal("a series that has come back", h.Names(), h.Values("a"))
	}
}

// P7.4: Bury of series that are there, and of others.
func TestBury(t *testing.T) {
	h := holding(t, 1000, point("a=1", 1, 1), point("a=1", 2, 1), point("a=1", 3, 1), point("a=2", 2, 1))
	h.Bury([]api.Gone{{Labels: set("a=3"), Min: 0, Max: 9}, {Min: 0, Max: 9}, {Labels: set("a="), Min: 0, Max: 9}, {Labels: set("a=1 a=1"), Min: 0, Max: 9}, {Labels: set("a=1"), Min: 3, Max: 2}, {Labels: set("a=1"), Min: math.MaxInt, Max: math.MinInt}})
	wantSelect(t, h, nil, 0, 9, "a=1: 1 2 3; a=2: 2")
	h.Bury([]api.Gone{{Labels: set("a=1"), Min: 2, Max: 2}, {Labels: set("a=2"), Min: math.MinInt, Max: math.MaxInt}})
	wantSelect(t, h, nil, 0, 9, "a=1: 1 3")
	if s, n := h.Count(); s != 2 || n != 4 {
		t.Fatal("Count", s, n)
	}
	h.Bury(nil)
	h.Commit([]api.Point{point("a=2", 5, 1)})
	wantSelect(t, h, nil, 0, 9, "a=1: 1 3; a=2: 5")
}

// P7.5: Last of what is there, and of what is not.
func TestLast(t *testing.T) {
	h := holding(t, 0, point("a=1", 1, 1), point("a=1", 2, 5), point("b=1", 9, 1))
	if x, ok := h.Last(set("a=1")); !ok || x != (api.Sample{T: 2, V: 5}) {
		t.Fatal("Last of an old one", x, ok)
	}
	for _, l := range [][]api.Label{nil, set("a=2"), set("a="), set("a=1 b=1"), set("b=1 a=1"), slices.Repeat(set("a=1"), 257)} {
		if x, ok := h.Last(l); ok || x != (api.Sample{}) {
			t.Fatal("Last of", l, x, ok)
		}
	}
}

// short writes series with the times of their samples alone.
func short(l []api.Series) string {
	var rows []string
	for _, s := range l {
		var row strings.Builder
		for i, x := range s.Labels {
			if i > 0 {
				row.WriteByte(' ')
			}
			row.WriteString(x.Name + "=" + x.Value)
		}
		row.WriteByte(':')
		for _, x := range s.Samples {
			row.WriteString(" " + itoa(x.T))
		}
		rows = append(rows, row.String())
	}
	return strings.Join(rows, "; ")
}
