package compact_test

import (
	"math"
	"slices"
	"testing"

	"vigil/api"
	"vigil/compact"
	"vigil/labels"
)

func (n *numbers) set() []api.Label {
	return set(pick(n, []string{"", "a=1", "a=1 b=1", "a=10", "a=2", "b=1"}))
}

func (n *numbers) value() float64 {
	return pick(n, []float64{0, math.Copysign(0, -1), 1, 2, 3, math.NaN(), math.Float64frombits(api.StaleBits)})
}

// series draws a list in no order, of which some series are met several times.
func (n *numbers) series() []api.Series {
	var l []api.Series
	for range n.below(6) {
		s := api.Series{Labels: n.set()}
		for range n.below(8) {
			s.Samples = append(s.Samples, api.Sample{T: n.below(12) - 4, V: n.value()})
		}
		l = append(l, s)
	}
	return l
}

// risen draws a list that rises, has each series once, and whose samples' times rise.
func (n *numbers) risen() []api.Series {
	var l []api.Series
	for _, text := range []string{"", "a=1", "a=1 b=1", "a=10", "a=2", "b=1"} {
		if n.below(2) == 0 {
			continue
		}
		s := api.Series{Labels: set(text)}
		for at := range 12 {
			if n.below(2) == 0 {
				s.Samples = append(s.Samples, api.Sample{T: at - 4, V: n.value()})
			}
		}
		l = append(l, s)
	}
	return l
}

func (n *numbers) holes() []api.Gone {
	var l []api.Gone
	for range n.below(8) {
		from := n.below(12) - 4
		l = append(l, api.Gone{Labels: n.set(), Min: from, Max: from + n.below(4) - 1})
	}
	return l
}

// mergedByWords takes sample by sample, the first lists first, and keeps one whose time is new.
func mergedByWords(lists ...[]api.Series) []api.Series {
	var out []api.Series
	for _, x := range slices.Concat(lists...) {
		at := slices.IndexFunc(out, func(y api.Series) bool { return labels.Compare(x.Labels, y.Labels) == 0 })
		if at < 0 {
			at = len(out)
			out = append(out, api.Series{Labels: x.Labels})
		}
		for _, sample := range x.Samples {
			if !slices.ContainsFunc(out[at].Samples, func(s api.Sample) bool { return s.T == sample.T }) {
				out[at].Samples = append(out[at].Samples, sample)
			}
		}
	}
	for _, x := range out {
		slices.SortFunc(x.Samples, func(a, b api.Sample) int { return a.T - b.T })
	}
	slices.SortFunc(out, func(a, b api.Series) int { return labels.Compare(a.Labels, b.Labels) })
	return out
}

// holds tells whether some Gone of those labels has that number.
func holds(l []api.Gone, set []api.Label, at int) bool {
	return slices.ContainsFunc(l, func(x api.Gone) bool {
		return labels.Compare(x.Labels, set) == 0 && x.Min <= at && at <= x.Max
	})
}

func lessByWords(series []api.Series, l []api.Gone) []api.Series {
	var out []api.Series
	for _, x := range series {
		s := api.Series{Labels: x.Labels}
		for _, sample := range x.Samples {
			if !holds(l, x.Labels, sample.T) {
				s.Samples = append(s.Samples, sample)
			}
		}
		if len(s.Samples) > 0 {
			out = append(out, s)
		}
	}
	return out
}

// unionByWords goes through all numbers that a draw may have, of each set.
func unionByWords(l []api.Gone) []api.Gone {
	var sets [][]api.Label
	for _, x := range l {
		sets = append(sets, x.Labels)
	}
	slices.SortFunc(sets, labels.Compare)
	sets = slices.CompactFunc(sets, func(a, b []api.Label) bool { return labels.Compare(a, b) == 0 })
	var out []api.Gone
	for _, s := range sets {
		for at := -20; at < 20; at++ {
			if !holds(l, s, at) {
				continue
			}
			if holds(l, s, at-1) {
				out[len(out)-1].Max = at
			} else {
				out = append(out, api.Gone{Labels: s, Min: at, Max: at})
			}
		}
	}
	return out
}

// P9.4: as by its words, of many lists.
func TestMergeByItsWords(t *testing.T) {
	n := numbers(3)
	for range 5000 {
		var lists [][]api.Series
		for range n.below(6) {
			if n.below(3) == 0 {
				lists = append(lists, n.risen())
			} else {
				lists = append(lists, n.series())
			}
		}
		wantSeries(t, "Merge", merged(lists...), mergedByWords(lists...)...)
	}
}

// P9.5: as by their words.
func TestGoneByTheirWords(t *testing.T) {
	n := numbers(4)
	for range 5000 {
		series, l := n.series(), n.holes()
		wantSeries(t, "Less", compact.Less(series, l), lessByWords(series, l)...)
		wantGone(t, "Union", compact.Union(l), unionByWords(l)...)
	}
}

// P9.6: the laws.
func TestLaws(t *testing.T) {
	n := numbers(5)
	for range 3000 {
		a, b, l := n.risen(), n.series(), n.holes()
		wantSeries(t, "Merge of a list that rises", merged(a), a...)
		wantSeries(t, "Merge with nothing", merged(nil, a, nil), a...)
		wantSeries(t, "Less of Union", compact.Less(b, compact.Union(l)), compact.Less(b, l)...)
		both := merged(a, b)
		for _, x := range slices.Concat(a, b) {
			at := slices.IndexFunc(both, func(y api.Series) bool { return labels.Compare(x.Labels, y.Labels) == 0 })
			for _, sample := range x.Samples {
				if at < 0 || !slices.ContainsFunc(both[at].Samples, func(s api.Sample) bool { return s.T == sample.T }) {
					t.Fatalf("Merge of a, b has not %v of %v", sample, x.Labels)
				}
			}
		}
	}
}

// P9.6: Less of Union is Less of the list at the ends of all numbers too.
func TestLawOfLessAtTheEnds(t *testing.T) {
	n := numbers(6)
	for range 3000 {
		var s api.Series
		for _, at := range edges() {
			s.Samples = append(s.Samples, api.Sample{T: at, V: 1})
		}
		var l []api.Gone
		for range 1 + n.below(4) {
			l = append(l, api.Gone{Min: pick(&n, edges()), Max: pick(&n, edges())})
		}
		want := lessByWords(list(s), l)
		wantSeries(t, "Less", compact.Less(list(s), l), want...)
		wantSeries(t, "Less of Union", compact.Less(list(s), compact.Union(l)), want...)
	}
}
