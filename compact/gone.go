package compact

import (
	"cmp"
	"slices"
	"sort"

	"vigil/api"
	"vigil/labels"
)

// Less is the series without the samples that are gone; those that have none then are left out.
func Less(series []api.Series, gone []api.Gone) []api.Series {
	pieces := Union(gone)
	var out []api.Series
	for _, x := range series {
		if left := without(x.Samples, piecesOf(pieces, x.Labels)); len(left) > 0 {
			out = append(out, api.Series{Labels: slices.Clone(x.Labels), Samples: left})
		}
	}
	return out
}

// Union is what some Gone of l holds, in the fewest pieces.
func Union(l []api.Gone) []api.Gone {
	inOrder := slices.DeleteFunc(slices.Clone(l), func(x api.Gone) bool { return x.Min > x.Max })
	slices.SortFunc(inOrder, func(a, b api.Gone) int {
		return cmp.Or(labels.Compare(a.Labels, b.Labels), cmp.Compare(a.Min, b.Min))
	})
	var out []api.Gone
	for _, x := range inOrder {
		if n := len(out); n > 0 && meets(out[n-1], x) {
			out[n-1].Max = max(out[n-1].Max, x.Max)
		} else {
			x.Labels = slices.Clone(x.Labels)
			out = append(out, x)
		}
	}
	return out
}

// meets tells whether two pieces, of which b begins no sooner, are of one label set and have no number between them.
func meets(a, b api.Gone) bool {
	// Where a.Max + 1 wraps round, no Min is above a.Max, and it is not asked for.
	return (b.Min <= a.Max || b.Min == a.Max+1) && labels.Compare(a.Labels, b.Labels) == 0
}

// piecesOf is the pieces of one label set, of those of Union.
func piecesOf(l []api.Gone, set []api.Label) []api.Gone {
	from := sort.Search(len(l), func(i int) bool { return labels.Compare(l[i].Labels, set) >= 0 })
	to := sort.Search(len(l), func(i int) bool { return labels.Compare(l[i].Labels, set) > 0 })
	return l[from:to]
}

// without is the samples, in their order, that no piece holds; the pieces are those of one label set.
func without(l []api.Sample, pieces []api.Gone) []api.Sample {
	var left []api.Sample
	for _, x := range l {
		i := sort.Search(len(pieces), func(i int) bool { return pieces[i].Max >= x.T })
		if i == len(pieces) || x.T < pieces[i].Min {
			left = append(left, x)
		}
	}
	return left
}
