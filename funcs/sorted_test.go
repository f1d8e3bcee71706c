package funcs_test

import (
	"fmt"
	"math"
	"math/rand"
	"strings"
	"testing"

	"vigil/api"
	"vigil/funcs"
)

// numbered is series of these values, each with its place as a label; one without samples for each word none.
func numbered(s string) []api.Series {
	var out []api.Series
	for i, word := range strings.Fields(s) {
		x := api.Series{Labels: []api.Label{{Name: "n", Value: fmt.Sprint(i)}}}
		if word != "none" {
			x.Samples = []api.Sample{{T: 5, V: value(word)}, {T: 6, V: float64(-i)}}
		}
		out = append(out, x)
	}
	return out
}

// places is which places the series had.
func places(l []api.Series) string {
	var out []string
	for _, x := range l {
		out = append(out, x.Labels[0].Value)
	}
	return strings.Join(out, " ")
}

// P14.9: series by their first samples.
func TestSorted(t *testing.T) {
	for _, x := range []struct{ l, up, down string }{
		{"", "", ""},
		{"1", "0", "0"},
		{"nan", "0", "0"},
		{"none", "0", "0"},
		{"2 1 3", "1 0 2", "2 0 1"},
		{"2 nan 1 2 none", "2 0 3 1 4", "0 3 2 1 4"},
		{"none nan 2 nan none 1", "5 2 0 1 3 4", "2 5 0 1 3 4"},
		{"1 1 1", "0 1 2", "0 1 2"},
		{"0 -0 0 -0", "0 1 2 3", "0 1 2 3"},
		{"0 -1 -0 1", "1 0 2 3", "3 0 2 1"},
		{"inf max -inf -max nan", "2 3 1 0 4", "0 1 3 2 4"},
		{"nan inf stale -inf -stale", "3 1 0 2 4", "1 3 0 2 4"},
		{"min 0 -min", "2 1 0", "0 1 2"},
		{"nan nan none stale none", "0 1 2 3 4", "0 1 2 3 4"},
	} {
		if got := places(funcs.Sorted(numbered(x.l), false)); got != x.up {
			t.Errorf("%s rises as %s; want %s", x.l, got, x.up)
		}
		if got := places(funcs.Sorted(numbered(x.l), true)); got != x.down {
			t.Errorf("%s falls as %s; want %s", x.l, got, x.down)
		}
	}
}

// P14.9: the series themselves are as they were, all bits of their samples too.
func TestSortedKeeps(t *testing.T) {
	l := numbered("3 none stale 0x1p-1074 -stale -0 1")
	l[0].Labels = append(l[0].Labels, api.Label{Name: "z", Value: "\xff"})
	for _, down := range []bool{false, true} {
		got := funcs.Sorted(l, down)
		if len(got) != len(l) {
			t.Error(len(got), "series")
		}
		for _, x := range got {
			var i int
			fmt.Sscan(x.Labels[0].Value, &i)
			if speltSeries(x) != speltSeries(l[i]) {
				t.Error(speltSeries(x), "was", speltSeries(l[i]))
			}
		}
	}
}

// speltSeries is all of a series, by bits.
func speltSeries(x api.Series) string {
	out := fmt.Sprintf("%q", x.Labels)
	for _, s := range x.Samples {
		out += fmt.Sprintf(" %d:%x", s.T, math.Float64bits(s.V))
	}
	return out
}

// P14.9: many lists, held against taking the first of the foremost again and again.
func TestSortedModel(t *testing.T) {
	r := rand.New(rand.NewSource(150))
	for range 3000 {
		var words []string
		for _, v := range floats(r, r.Intn(12)) {
			words = append(words, []string{fmt.Sprint(v), fmt.Sprint(v), "none", "nan"}[r.Intn(4)])
		}
		l := numbered(strings.Join(words, " "))
		for _, down := range []bool{false, true} {
			var want []api.Series
			for rest := append([]api.Series(nil), l...); len(rest) > 0; {
				best := 0
				for i := range rest {
					if ahead(rest[i], rest[best], down) {
						best = i
					}
				}
				want = append(want, rest[best])
				rest = append(rest[:best:best], rest[best+1:]...)
			}
			if got := places(funcs.Sorted(l, down)); got != places(want) {
				t.Errorf("%v, down %v: %s; want %s", words, down, got, places(want))
			}
		}
	}
}

// ahead tells whether a must stand ahead of b.
func ahead(a, b api.Series, down bool) bool {
	if len(a.Samples) == 0 || math.IsNaN(a.Samples[0].V) {
		return false
	}
	if len(b.Samples) == 0 || math.IsNaN(b.Samples[0].V) {
		return true
	}
	if down {
		return a.Samples[0].V > b.Samples[0].V
	}
	return a.Samples[0].V < b.Samples[0].V
}

// P14.9: a long list of few values stays in its order.
func TestSortedLong(t *testing.T) {
	var l []api.Series
	for i := range 5000 {
		l = append(l, api.Series{Labels: []api.Label{{Name: "n", Value: fmt.Sprint(i)}}, Samples: []api.Sample{{T: i, V: float64(i % 3)}}})
	}
	for _, down := range []bool{false, true} {
		got := funcs.Sorted(l, down)
		for i := 1; i < len(got); i++ {
			a, b := got[i-1].Samples[0], got[i].Samples[0]
			if a.V == b.V && a.T > b.T || a.V != b.V && a.V < b.V == down {
				t.Fatal(a, "is ahead of", b)
			}
		}
	}
}
