package compact

import (
	"cmp"
	"iter"
	"slices"

	"vigil/api"
	"vigil/labels"
)

// Merge tells the series of several lists as one.
func Merge(l ...[]api.Series) iter.Seq[api.Series] {
	rows := make([]iter.Seq[api.Series], len(l))
	for i, list := range l {
		rows[i] = slices.Values(risen(list))
	}
	all := merged(rows)
	return func(yield func(api.Series) bool) {
		for x := range all {
			// Whoever is told a series may change it, and the next ranging tells it as it was.
			if !yield(copied(x)) {
				return
			}
		}
	}
}

// Collect is what s tells, as a list.
func Collect(s iter.Seq[api.Series]) (out []api.Series) {
	// No call panics, whatever it is given: of an s that does, what it told ahead of that is answered.
	defer func() { _ = recover() }()
	if s == nil {
		return nil
	}
	for x := range s {
		out = append(out, copied(x))
	}
	return out
}

// Span is the least and the greatest time of all samples; false, if there are none.
func Span(series []api.Series) (mint, maxt int, ok bool) {
	for _, x := range series {
		for _, sample := range x.Samples {
			if !ok {
				mint, maxt, ok = sample.T, sample.T, true
			}
			mint, maxt = min(mint, sample.T), max(maxt, sample.T)
		}
	}
	return mint, maxt, ok
}

// merged tells what several rows tell as one. They are halved, not taken one by one, so that a series of the first one is not handed on through all others.
func merged(rows []iter.Seq[api.Series]) iter.Seq[api.Series] {
	switch len(rows) {
	case 0:
		return slices.Values([]api.Series(nil))
	case 1:
		return rows[0]
	}
	half := len(rows) / 2
	return both(merged(rows[:half]), merged(rows[half:]))
}

// both tells what two rows tell as one; each of them rises by labels and tells each series once.
func both(a, b iter.Seq[api.Series]) iter.Seq[api.Series] {
	return func(yield func(api.Series) bool) {
		// One function alone can be ranged over at a time: what the other one tells waits.
		waiting := slices.Collect(b)
		for x := range a {
			for ; len(waiting) > 0; waiting = waiting[1:] {
				order := labels.Compare(waiting[0].Labels, x.Labels)
				if order > 0 {
					break
				}
				if order == 0 {
					x.Samples = together(x.Samples, waiting[0].Samples)
				} else if !yield(waiting[0]) {
					return
				}
			}
			if !yield(x) {
				return
			}
		}
		for _, x := range waiting {
			if !yield(x) {
				return
			}
		}
	}
}

// together is the samples of two lists that rise as one that rises; of two samples of one time that of a.
func together(a, b []api.Sample) []api.Sample {
	out := make([]api.Sample, 0, len(a)+len(b))
next:
	for _, y := range b {
		for len(a) > 0 && a[0].T <= y.T {
			if a[0].T == y.T {
				continue next
			}
			out = append(out, a[0])
			a = a[1:]
		}
		out = append(out, y)
	}
	return append(out, a...)
}

// risen is the series of a list in new memory: rising by labels, each once, its samples rising.
func risen(list []api.Series) []api.Series {
	inOrder := slices.Clone(list)
	slices.SortStableFunc(inOrder, func(a, b api.Series) int { return labels.Compare(a.Labels, b.Labels) })
	var out []api.Series
	for _, x := range inOrder {
		if n := len(out); n > 0 && labels.Compare(out[n-1].Labels, x.Labels) == 0 {
			out[n-1].Samples = append(out[n-1].Samples, x.Samples...)
		} else {
			out = append(out, copied(x))
		}
	}
	for i, x := range out {
		out[i].Samples = risenSamples(x.Samples)
	}
	return out
}

// risenSamples puts samples in order where they stand; of several of one time the first is left.
func risenSamples(l []api.Sample) []api.Sample {
	slices.SortStableFunc(l, func(a, b api.Sample) int { return cmp.Compare(a.T, b.T) })
	return slices.CompactFunc(l, func(a, b api.Sample) bool { return a.T == b.T })
}

func copied(x api.Series) api.Series {
	return api.Series{Labels: slices.Clone(x.Labels), Samples: slices.Clone(x.Samples)}
}
