package block_test

import (
	"fmt"
	"math"
	"slices"
	"strings"
	"testing"

	"vigil/api"
	"vigil/block"
	"vigil/disk"
	"vigil/labels"
)

// judged asks Right and Write, which must be of one mind.
func judged(t *testing.T, why string, p pack, right bool) {
	t.Helper()
	was := p.spelt()
	d := disk.New(room)
	e := write(d, p)
	if got := block.Right(p.meta, p.series, p.gone); got != right {
		t.Fatalf("%s: Right is %v", why, got)
	}
	if p.spelt() != was {
		t.Fatalf("%s: changed", why)
	}
	if right {
		want(t, e, api.OK)
		reads(t, d, p)
		return
	}
	if e != api.ErrArg || d.Ops() != 0 || len(block.List(d)) > 0 {
		t.Fatalf("%s: Write is %d", why, e)
	}
}

// P8.1: names are 1 to 24 bytes of a to z and 0 to 9.
func TestRightName(t *testing.T) {
	for _, x := range []struct {
		name  string
		right bool
	}{
		{"", false}, {"a", true}, {"0", true}, {"wal", true}, {strings.Repeat("z", 24), true}, {strings.Repeat("z", 25), false}, {strings.Repeat("9", 24), true},
		{strings.Repeat("a", 1<<16), false}, {"b1/", false}, {"/b1", false}, {"b/1", false}, {"b.1", false}, {"b-1", false}, {"b_1", false}, {"b 1", false}, {"é", false}, {"b1\x00", false}, {"B1", false},
		{"abcdefghijklmnopqrstuvwxyz"[:24], true}, {"0123456789", true},
	} {
		judged(t, x.name, pack{meta: api.Meta{Name: x.name, Max: 1}}, x.right)
	}
	for c := range 256 {
		right := 'a' <= c && c <= 'z' || '0' <= c && c <= '9'
		for _, name := range []string{string([]byte{byte(c)}), "a" + string([]byte{byte(c)}), string([]byte{byte(c)}) + "a", strings.Repeat("a", 23) + string([]byte{byte(c)})} {
			judged(t, name, pack{meta: api.Meta{Name: name, Max: 1}}, right)
		}
	}
}

// P8.1: Min is below Max, both -MaxTime to MaxTime + 1; Level is 0 or more.
func TestRightMeta(t *testing.T) {
	const least, most = -api.MaxTime, api.MaxTime + 1
	for _, x := range []struct {
		min, max, level int
		right           bool
	}{
		{0, 1, 0, true}, {0, 0, 0, false}, {1, 0, 0, false}, {5, 5, 0, false}, {-1, 0, 0, true}, {least, most, 0, true},
		{least - 1, 0, 0, false}, {least, least + 1, 0, true}, {least, least, 0, false}, {least - 1, least, 0, false}, {least - 2, least - 1, 0, false},
		{0, most + 1, 0, false}, {most - 1, most, 0, true}, {most, most, 0, false}, {most, most + 1, 0, false}, {most + 1, most + 2, 0, false}, {least - 1, most + 1, 0, false},
		{math.MinInt, math.MaxInt, 0, false}, {math.MinInt, 0, 0, false}, {0, math.MaxInt, 0, false}, {math.MaxInt, math.MinInt, 0, false}, {most, least, 0, false},
		{0, 1, 1, true}, {0, 1, math.MaxInt, true}, {0, 1, -1, false}, {0, 1, math.MinInt, false},
	} {
		judged(t, fmt.Sprint(x), pack{meta: api.Meta{Name: "b", Min: x.min, Max: x.max, Level: x.level}}, x.right)
	}
}

// P8.1: the series' labels are sets, rising, each once.
func TestRightLabels(t *testing.T) {
	many := func(n int) []api.Label {
		var out []api.Label
		for i := range n {
			out = append(out, api.Label{Name: fmt.Sprintf("l%03d", i), Value: "1"})
		}
		return out
	}
	one := func(name, value string) [][]api.Label { return [][]api.Label{{{Name: name, Value: value}}} }
	for i, x := range []struct {
		labels [][]api.Label
		right  bool
	}{
		{[][]api.Label{set("")}, true},
		{[][]api.Label{set(""), set("a=1")}, true},
		{[][]api.Label{set("a=1"), set("")}, false},
		{[][]api.Label{set(""), set("")}, false},
		{[][]api.Label{set("a=1"), set("a=2")}, true},
		{[][]api.Label{set("a=2"), set("a=1")}, false},
		{[][]api.Label{set("a=1"), set("a=1")}, false},
		{[][]api.Label{set("a=1"), set("a=2"), set("a=1")}, false},
		{[][]api.Label{set("a=1"), set("a=1 b=1"), set("a=10"), set("b=0")}, true},
		{[][]api.Label{set("a=1 b=1"), set("a=1")}, false},
		{[][]api.Label{set("a=2"), set("a=10")}, false},
		{[][]api.Label{set("b=1 a=1")}, false},
		{[][]api.Label{set("a=1 a=1")}, false},
		{[][]api.Label{set("a=1 a=2")}, false},
		{[][]api.Label{set("a=1"), set("b=")}, false},
		{[][]api.Label{many(64)}, true},
		{[][]api.Label{many(65)}, false},
		{[][]api.Label{many(257)}, false},
		{one("", "1"), false}, {one("0a", "1"), false}, {one("a-b", "1"), false}, {one("a", "\xff"), false}, {one("a", ""), false},
		{one("__name__", "a-b"), false}, {one("__name__", "a:b"), true}, {one("a", "é\x00\n"), true},
		{one(strings.Repeat("a", 1024), strings.Repeat("b", 1024)), true}, {one(strings.Repeat("a", 1025), "1"), false}, {one("a", strings.Repeat("b", 1025)), false},
	} {
		p := pack{meta: api.Meta{Name: "b", Max: 9}}
		for _, l := range x.labels {
			p.series = append(p.series, api.Series{Labels: l, Samples: []api.Sample{{T: 1, V: 1}}})
		}
		judged(t, fmt.Sprint(i), p, x.right)
	}
}

// P8.1: each series has a sample or more, whose times rise and are Min to below Max.
func TestRightSamples(t *testing.T) {
	for i, x := range []struct {
		min, max int
		times    []int
		right    bool
	}{
		{0, 100, nil, false}, {0, 100, []int{0}, true}, {0, 100, []int{99}, true}, {0, 100, []int{100}, false}, {0, 100, []int{-1}, false},
		{0, 100, []int{0, 99}, true}, {0, 100, []int{0, 100}, false}, {0, 100, []int{-1, 50}, false}, {0, 100, []int{5, 5}, false}, {0, 100, []int{5, 4}, false},
		{0, 100, []int{1, 2, 3, 3, 4}, false}, {0, 100, []int{1, 2, 3, 2, 4}, false}, {0, 100, []int{1, 101, 50}, false}, {0, 100, []int{50, -1, 60}, false},
		{0, 1, []int{0}, true}, {0, 1, []int{1}, false}, {-10, -5, []int{-10, -6}, true}, {-10, -5, []int{-5}, false}, {-10, -5, []int{-11}, false},
		{-api.MaxTime, api.MaxTime + 1, []int{-api.MaxTime, api.MaxTime}, true}, {-api.MaxTime, api.MaxTime + 1, []int{api.MaxTime + 1}, false}, {-api.MaxTime, api.MaxTime + 1, []int{-api.MaxTime - 1}, false},
		{-api.MaxTime, api.MaxTime, []int{api.MaxTime}, false}, {0, 100, []int{math.MaxInt}, false}, {0, 100, []int{math.MinInt}, false}, {0, 100, []int{math.MinInt, 50, math.MaxInt}, false},
	} {
		p := pack{meta: api.Meta{Name: "b", Min: x.min, Max: x.max}, series: []api.Series{row("a=1", x.times...)}}
		judged(t, fmt.Sprint(i), p, x.right)
		p.series = []api.Series{row("a=0", x.min), p.series[0], row("a=2", x.max-1)}
		judged(t, fmt.Sprint(i, " among others"), p, x.right)
	}
}

// P8.1: each Gone's labels are those of one of the series, and its Min no more than its Max.
func TestRightGone(t *testing.T) {
	series := []api.Series{row("a=1", 5), row("a=1 b=1", 5), row("c=1", 5)}
	for i, x := range []struct {
		labels   []api.Label
		min, max int
		right    bool
	}{
		{set("a=1"), 1, 2, true}, {set("a=1"), 2, 2, true}, {set("a=1"), 3, 2, false}, {set("a=1 b=1"), -500, 500, true}, {set("c=1"), 100, 100, true},
		{set("a=1"), math.MinInt, math.MaxInt, true}, {set("a=1"), math.MaxInt, math.MinInt, false}, {set("a=1"), math.MaxInt, math.MaxInt, true}, {set("a=1"), math.MinInt, math.MinInt, true},
		{set("a=2"), 1, 2, false}, {set(""), 1, 2, false}, {set("a=1 b=2"), 1, 2, false}, {set("a=1 b=1 c=1"), 1, 2, false}, {set("b=1"), 1, 2, false}, {set("d=1"), 1, 2, false}, {set("c=1 c=1"), 1, 2, false},
		{set("b=1 a=1"), 1, 2, false}, {[]api.Label{{Name: "a"}}, 1, 2, false}, {[]api.Label{{Name: "a", Value: "1"}, {}}, 1, 2, false},
	} {
		gone := api.Gone{Labels: x.labels, Min: x.min, Max: x.max}
		fine := api.Gone{Labels: set("c=1"), Min: 1, Max: 1}
		for _, l := range [][]api.Gone{{gone}, {fine, gone}, {gone, fine}, {gone, gone}} {
			judged(t, fmt.Sprint(i), pack{meta: api.Meta{Name: "b", Max: 9}, series: series, gone: l}, x.right)
		}
		judged(t, "of no series", pack{meta: api.Meta{Name: "b", Max: 9}, gone: []api.Gone{gone}}, false)
	}
}

// rightByWords says the chapter again, by going through everything.
func rightByWords(p pack) bool {
	m := p.meta
	if len(m.Name) < 1 || len(m.Name) > 24 || strings.Trim(m.Name, "abcdefghijklmnopqrstuvwxyz0123456789") != "" {
		return false
	}
	if m.Min >= m.Max || m.Min < -api.MaxTime || m.Max > api.MaxTime+1 || m.Level < 0 {
		return false
	}
	for i, s := range p.series {
		if made, e := labels.New(s.Labels); e != api.OK || !slices.Equal(made, s.Labels) || len(s.Samples) == 0 {
			return false
		}
		for _, later := range p.series[i+1:] {
			if labels.Compare(s.Labels, later.Labels) >= 0 {
				return false
			}
		}
		for j, x := range s.Samples {
			if x.T < m.Min || x.T >= m.Max || j > 0 && s.Samples[j-1].T >= x.T {
				return false
			}
		}
	}
	for _, x := range p.gone {
		if x.Min > x.Max || !slices.ContainsFunc(p.series, func(s api.Series) bool { return slices.Equal(s.Labels, x.Labels) }) {
			return false
		}
	}
	return true
}

// numbers are as good as any, and the same in each run.
type numbers uint64

func (n *numbers) below(most int) int {
	*n = *n*6364136223846793005 + 1442695040888963407
	return int(uint64(*n)>>33) % most
}

// P8.1: small blocks of all kinds, some of them right.
func TestRightAgainstWords(t *testing.T) {
	sets := []string{"", "a=1", "a=1 b=1", "a=2", "b=1", "b=1 a=1", "c="}
	count := map[bool]int{}
	for seed := range 20000 {
		n := numbers(seed)
		p := pack{meta: api.Meta{Name: "b", Min: n.below(4) - 1, Max: 2 + n.below(8), Level: n.below(12) - 1}}
		at := 0
		for range n.below(4) {
			at = min(at+n.below(3), len(sets)-1)
			s := api.Series{Labels: set(sets[at])}
			for i, time := 0, n.below(4)-1; i < n.below(5)+n.below(2); i++ {
				s.Samples = append(s.Samples, api.Sample{T: time, V: float64(i)})
				time += n.below(3)
			}
			p.series = append(p.series, s)
		}
		for range n.below(3) {
			from := n.below(5)
			p.gone = append(p.gone, api.Gone{Labels: set(sets[n.below(at+1)]), Min: from, Max: from + n.below(6) - 1})
		}
		right := rightByWords(p)
		judged(t, p.spelt(), p, right)
		count[right]++
	}
	if count[true] < 1000 || count[false] < 1000 {
		t.Fatal(count)
	}
}
