package compact_test

import (
	"cmp"
	"math"
	"math/big"
	"slices"
	"strings"
	"testing"

	"vigil/api"
	"vigil/compact"
)

func block(name string, mint, maxt, level int) api.Meta {
	return api.Meta{Name: name, Min: mint, Max: maxt, Level: level}
}

// wantNames asks for names, apart by blanks.
func wantNames(t *testing.T, call string, got []string, want string) {
	t.Helper()
	if strings.Join(got, " ") != want {
		t.Fatalf("%s: %q, want %q", call, got, want)
	}
}

// three is the blocks of the chapter's run, out of order.
func three() []api.Meta {
	return []api.Meta{block("c", 20, 30, 0), block("a", 0, 10, 0), block("b", 10, 20, 0)}
}

// P9.2: in their order, at the horizon too, whatever their Level and Min.
func TestRemoved(t *testing.T) {
	wantNames(t, "at the horizon", compact.Removed(three(), 20), "a b")
	wantNames(t, "in their order", compact.Removed(three(), 30), "c a b")
	wantNames(t, "one less", compact.Removed(three(), 19), "a")
	wantNames(t, "none", compact.Removed(three(), 9), "")
	wantNames(t, "of none", compact.Removed(nil, 9), "")
	l := []api.Meta{block("x", 50, 5, 7), block("", 0, 5, 2), block("x", 0, 5, 0), block("y", -9, 6, 0)}
	if got := compact.Removed(l, 5); !slices.Equal(got, []string{"x", "", "x"}) {
		t.Fatalf("names that are empty and met twice: %q", got)
	}
	wantNames(t, "below 0", compact.Removed([]api.Meta{block("a", -20, -10, 0), block("b", -10, -9, 0)}, -10), "a")
}

// P9.2: times outside count as the nearer end.
func TestRemovedAtTheEnds(t *testing.T) {
	first, last := -api.MaxTime, api.MaxTime
	l := []api.Meta{block("a", first, first, 0), block("b", math.MinInt, math.MinInt, 0), block("c", first, first+1, 0), block("d", 0, last, 0), block("e", 0, last+1, 0), block("f", 0, math.MaxInt, 0)}
	wantNames(t, "the first time", compact.Removed(l, first), "a b")
	wantNames(t, "ahead of it", compact.Removed(l, first-1), "a b")
	wantNames(t, "the least number", compact.Removed(l, math.MinInt), "a b")
	wantNames(t, "ahead of the last time", compact.Removed(l, last-1), "a b c")
	wantNames(t, "the last time", compact.Removed(l, last), "a b c d e f")
	wantNames(t, "behind it", compact.Removed(l, last+1), "a b c d e f")
	wantNames(t, "the greatest number", compact.Removed(l, math.MaxInt), "a b c d e f")
}

// P9.2: the chapter's runs and its third example.
func TestPlanRuns(t *testing.T) {
	wantNames(t, "three", compact.Plan(three(), 30, 10), "a b c")
	wantNames(t, "newest 29", compact.Plan(three(), 29, 10), "")
	wantNames(t, "two spans", compact.Plan([]api.Meta{block("a", 20, 30, 0), block("b", 30, 40, 0)}, 99, 10), "")
	wantNames(t, "Level 2", compact.Plan([]api.Meta{block("a", 0, 9, 2), block("b", 0, 9, 2)}, 999, 10), "")
	wantNames(t, "none", compact.Plan(nil, 30, 10), "")
}

// P9.2: which blocks stand in a span.
func TestPlanSpans(t *testing.T) {
	for _, x := range []struct {
		call string
		a, b api.Meta
		want string
	}{
		{"at its ends", block("a", 30, 31, 0), block("b", 59, 60, 0), "a b"},
		{"one begins too soon", block("a", 29, 31, 0), block("b", 59, 60, 0), ""},
		{"one ends too late", block("a", 30, 31, 0), block("b", 59, 61, 0), ""},
		{"both are the whole of it", block("b", 30, 60, 0), block("a", 30, 60, 0), "a b"},
		{"one across two spans", block("a", 0, 60, 0), block("b", 0, 30, 0), ""},
		{"of Level 1 to 90", block("a", 0, 60, 1), block("b", 60, 90, 1), "a b"},
		{"of Level 1, longer", block("a", 0, 60, 1), block("b", 60, 91, 1), ""},
		{"of Level 1 on both sides of 90", block("a", 0, 90, 1), block("b", 90, 100, 1), ""},
		{"of two Levels", block("a", 0, 10, 0), block("b", 10, 20, 1), ""},
		{"below 0", block("a", -30, -20, 0), block("b", -20, 0, 0), "a b"},
		{"of Level 1 below 0", block("a", -90, -30, 1), block("b", -30, 0, 1), "a b"},
		{"on both sides of 0", block("a", -10, 0, 0), block("b", 0, 10, 0), ""},
		{"by Min, not by Name", block("z", 0, 10, 0), block("a", 10, 20, 0), "z a"},
		{"of one Min by Name, not by Max", block("y", 0, 10, 0), block("x", 0, 20, 0), "x y"},
		{"of one Name", block("a", 0, 10, 0), block("a", 10, 20, 0), "a a"},
		{"of a Level below 0", block("a", 0, 10, -1), block("b", 10, 20, -1), ""},
		{"of Level 3", block("a", 0, 10, 3), block("b", 10, 20, 3), ""},
		{"of the greatest Level", block("a", 0, 10, math.MaxInt), block("b", 10, 20, math.MaxInt), ""},
		{"ends the wrong way about", block("a", 10, 0, 0), block("b", 30, 20, 0), "a b"},
		{"no length, where a span ends", block("a", 20, 30, 0), block("b", 30, 30, 0), "a b"},
		{"no length, where a span begins", block("a", 30, 40, 0), block("b", 30, 30, 0), "a b"},
		{"no length, a span away", block("a", 0, 10, 0), block("b", 60, 60, 0), ""},
	} {
		wantNames(t, x.call, compact.Plan([]api.Meta{x.a, x.b}, 1000, 10), x.want)
		wantNames(t, x.call+", the other way about", compact.Plan([]api.Meta{x.b, x.a}, 1000, 10), x.want)
	}
}

// P9.2: of several lots the least Level, of one Level the least n; lots of one block are none.
func TestPlanLots(t *testing.T) {
	low := []api.Meta{block("e", 60, 70, 0), block("f", 70, 80, 0)}
	ones := []api.Meta{block("p", -60, -50, 0), block("q", 0, 10, 0), block("r", 30, 40, 0)}
	high := []api.Meta{block("h", 0, 30, 1), block("i", 30, 60, 1)}
	older := []api.Meta{block("g", -30, -20, 0), block("d", -10, 0, 0)}
	all := slices.Concat(low, ones, high, older)
	wantNames(t, "the least n", compact.Plan(all, 999, 10), "g d")
	wantNames(t, "the least Level", compact.Plan(slices.Concat(high, low), 999, 10), "e f")
	wantNames(t, "the least Level that is past", compact.Plan(slices.Concat(high, low), 90, 10), "e f")
	wantNames(t, "Level 1, as Level 0 has lots of one", compact.Plan(slices.Concat(high, ones), 999, 10), "h i")
	wantNames(t, "Level 1, not past", compact.Plan(slices.Concat(high, ones), 89, 10), "")
	wantNames(t, "Level 1, just past", compact.Plan(slices.Concat(high, ones), 90, 10), "h i")
	wantNames(t, "lots of one", compact.Plan(ones, 999, 10), "")
	wantNames(t, "the first lot alone is past", compact.Plan(all, 0, 10), "g d")
	wantNames(t, "no lot is past", compact.Plan(all, -1, 10), "")
}

// P9.2: widths of 1, below it and as great as can be; newest outside of all times.
func TestPlanWidths(t *testing.T) {
	two := []api.Meta{block("a", 0, 1, 0), block("b", 2, 3, 0)}
	for _, width := range []int{1, 0, -1, math.MinInt} {
		wantNames(t, "span 3", compact.Plan(two, 3, width), "a b")
		wantNames(t, "span 3, newest 2", compact.Plan(two, 2, width), "")
		wantNames(t, "span 9", compact.Plan([]api.Meta{block("a", 0, 1, 1), block("b", 2, 9, 1)}, 9, width), "a b")
		wantNames(t, "newest ahead of all", compact.Plan(two, math.MinInt, width), "")
		wantNames(t, "newest behind all", compact.Plan(two, math.MaxInt, width), "a b")
	}
	for _, width := range []int{math.MaxInt, math.MaxInt / 2, math.MaxInt / 3, math.MaxInt/3 + 1, math.MaxInt / 9, math.MaxInt/9 + 1, api.MaxTime, api.MaxTime + 1, api.MaxTime/3 + 1} {
		wantNames(t, "above 0", compact.Plan(two, math.MaxInt, width), "")
		for level := range 2 {
			l := []api.Meta{block("a", -9, 0, level), block("b", math.MinInt, -5, level)}
			wantNames(t, "below 0", compact.Plan(l, 0, width), "b a")
			wantNames(t, "below 0, newest below 0", compact.Plan(l, -1, width), "")
			wantNames(t, "across 0", compact.Plan([]api.Meta{block("a", -9, 1, level), block("b", math.MinInt, math.MaxInt, level)}, math.MaxInt, width), "")
		}
	}
	width := api.MaxTime / 3
	wantNames(t, "a span of nearly all times", compact.Plan([]api.Meta{block("a", 0, 1, 0), block("b", 0, 3*width, 0)}, math.MaxInt, width), "a b")
	wantNames(t, "a block behind all times counts as at their end", compact.Plan([]api.Meta{block("a", 0, 1, 0), block("b", 0, math.MaxInt, 0)}, math.MaxInt, width), "")
	wantNames(t, "blocks ahead of all times, by Name", compact.Plan([]api.Meta{block("b", math.MinInt, -api.MaxTime, 0), block("a", math.MinInt+9, -api.MaxTime, 0)}, 0, 10), "a b")
}

// planByWords reckons Plan by numbers without an end, trying each n near one of the blocks.
func planByWords(metas []api.Meta, newest, width int) []string {
	for level, by := range []int64{3, 9} {
		span := times(countedWidth(width), big.NewInt(by))
		var ns []*big.Int
		for _, m := range metas {
			for by := range int64(5) {
				ns = append(ns, plus(over(counted(m.Min), span), big.NewInt(by-2)))
			}
		}
		slices.SortFunc(ns, (*big.Int).Cmp)
		for _, n := range ns {
			from := times(n, span)
			to := plus(from, span)
			if to.Cmp(counted(newest)) > 0 {
				continue
			}
			if l := standing(metas, level, from, to); len(l) > 1 {
				return l
			}
		}
	}
	return nil
}

// standing is the Names of the blocks of a Level that are within a span.
func standing(metas []api.Meta, level int, from, to *big.Int) []string {
	var l []api.Meta
	for _, m := range metas {
		within := true
		for _, end := range []int{m.Min, m.Max} {
			within = within && counted(end).Cmp(from) >= 0 && counted(end).Cmp(to) <= 0
		}
		if within && m.Level == level {
			l = append(l, m)
		}
	}
	slices.SortFunc(l, func(a, b api.Meta) int {
		return cmp.Or(counted(a.Min).Cmp(counted(b.Min)), cmp.Compare(a.Name, b.Name))
	})
	var names []string
	for _, m := range l {
		names = append(names, m.Name)
	}
	return names
}

// P9.2: as by its words, of many blocks.
func TestPlanByItsWords(t *testing.T) {
	n := numbers(2)
	met := map[int]int{}
	for range 20000 {
		at := pick(&n, []int{0, 0, api.MaxTime - 20, -api.MaxTime})
		width := n.below(12) - 1
		if n.below(8) == 0 {
			width = n.near(at)
		}
		var metas []api.Meta
		for range n.below(12) {
			from := n.near(at)
			m := block(string(rune('a'+n.below(5))), from, from+n.below(9), max(n.below(6)-2, n.below(2)-1))
			if n.below(6) == 0 {
				m.Max = n.near(at)
			}
			metas = append(metas, m)
		}
		newest := n.near(at) + n.below(30)
		want := planByWords(metas, newest, width)
		if got := compact.Plan(metas, newest, width); !slices.Equal(got, want) {
			t.Fatalf("Plan(%v, %d, %d): %q, want %q", metas, newest, width, got, want)
		}
		met[len(want)]++
	}
	if met[0] < 1000 || met[2] < 1000 || met[4] < 50 {
		t.Fatal("the draws say too little:", met)
	}
}

func wantJoined(t *testing.T, call string, metas []api.Meta, names string, want api.Meta, found bool) {
	t.Helper()
	if got, ok := compact.Joined(metas, strings.Fields(names)); got != want || ok != found {
		t.Fatalf("%s: %v %v, want %v %v", call, got, ok, want, found)
	}
}

// P9.3: of those that are named alone, whatever the order.
func TestJoined(t *testing.T) {
	l := []api.Meta{block("a", 10, 20, 0), block("b", 5, 12, 1), block("c", -7, 99, 4), block("d", 11, 13, 0), block("a", 50, 60, 0)}
	wantJoined(t, "two", l, "b d", block("", 5, 13, 2), true)
	wantJoined(t, "the other way about", l, "d b", block("", 5, 13, 2), true)
	wantJoined(t, "all", l, "a b c d", block("", -7, 99, 5), true)
	wantJoined(t, "names met twice, and one of two blocks", l, "a a d a", block("", 10, 60, 1), true)
	wantJoined(t, "one name of two blocks", l, "a", block("", 10, 60, 1), true)
	wantJoined(t, "a name that no block has", l, "b nosuch d", block("", 5, 13, 2), true)
	wantJoined(t, "one block", l, "c", api.Meta{}, false)
	wantJoined(t, "one block, named twice", l, "c c", api.Meta{}, false)
	wantJoined(t, "one block, and a name that no block has", l, "c nosuch", api.Meta{}, false)
	wantJoined(t, "no names", l, "", api.Meta{}, false)
	wantJoined(t, "no blocks", nil, "a b", api.Meta{}, false)
	wantJoined(t, "names that no block has", l, "x y", api.Meta{}, false)
	wantJoined(t, "all above 0", []api.Meta{block("a", 5, 9, 2), block("b", 7, 8, 3)}, "a b", block("", 5, 9, 4), true)
	wantJoined(t, "all below 0", []api.Meta{block("a", -5, -3, -9), block("b", -7, -4, -8)}, "a b", block("", -7, -3, -7), true)
	if got, ok := compact.Joined([]api.Meta{block("", 1, 2, 0), block("", 3, 4, 0)}, []string{""}); got != block("", 1, 4, 1) || !ok {
		t.Fatal("an empty name:", got, ok)
	}
	wantJoined(t, "a block to the end of all times", []api.Meta{block("a", -api.MaxTime, 0, 0), block("b", 0, api.MaxTime+1, 0)}, "a b", block("", -api.MaxTime, api.MaxTime+1, 1), true)
}

// P9.2, P9.3: what is planned can be joined, and has a Level that Plan goes on with, until Level 2.
func TestPlanAndJoined(t *testing.T) {
	var metas []api.Meta
	for i := range 18 {
		metas = append(metas, block(string(rune('a'+i)), 10*i, 10*i+10, 0))
	}
	for step := 0; ; step++ {
		names := compact.Plan(metas, 180, 10)
		if len(names) == 0 {
			break
		}
		one, ok := compact.Joined(metas, names)
		if !ok || len(names) != 3 {
			t.Fatalf("step %d: %q %v", step, names, one)
		}
		one.Name = "z" + strings.Join(names, "")
		metas = slices.DeleteFunc(metas, func(m api.Meta) bool { return slices.Contains(names, m.Name) })
		metas = append(metas, one)
	}
	if len(metas) != 2 || metas[0].Min != 0 || metas[0].Max != 90 || metas[1].Max != 180 || metas[1].Level != 2 {
		t.Fatal(metas)
	}
}
