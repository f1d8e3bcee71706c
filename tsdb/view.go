package tsdb

import (
	"iter"
	"slices"

	"vigil/api"
	"vigil/compact"
	"vigil/head"
)

// Select finds series.
func (b *DB) Select(ms []api.Matcher, mint, maxt int) ([]api.Series, api.Errno) {
	if _, e := head.Matches(ms, nil); e != api.OK {
		return nil, e
	}
	return slices.Collect(b.view(ms, mint, maxt)), api.OK
}

// All tells all series.
func (b *DB) All() iter.Seq[api.Series] { return b.view(nil, first, api.MaxTime) }

// Names are the label names.
func (b *DB) Names() []string {
	var names []string
	for s := range b.All() {
		for _, x := range s.Labels {
			names = append(names, x.Name)
		}
	}
	return risen(names)
}

// Values are a label's values.
func (b *DB) Values(name string) []string {
	var values []string
	for s := range b.All() {
		for _, x := range s.Labels {
			if x.Name == name {
				values = append(values, x.Value)
			}
		}
	}
	return risen(values)
}

// Last is a series' last sample.
func (b *DB) Last(l []api.Label) (api.Sample, bool) {
	last, ok := b.head.Last(l)
	if !ok || last.T < b.Horizon() {
		return api.Sample{}, false
	}
	return last, true
}

// view tells the series that blocks and head have together, one by one, as they are when it is ranged over; the matchers are right.
func (b *DB) view(ms []api.Matcher, mint, maxt int) iter.Seq[api.Series] {
	return func(yield func(api.Series) bool) {
		// All is found ahead of the first, so that whoever ranges may change the store meanwhile.
		for s := range merged(b.found(ms, max(mint, b.Horizon()), maxt)) {
			if !yield(s) {
				return
			}
		}
	}
}

// found is what each block and the head have, where they have something.
func (b *DB) found(ms []api.Matcher, mint, maxt int) [][]api.Series {
	var lists [][]api.Series
	for _, p := range b.parts {
		lists = append(lists, p.find(ms, mint, maxt))
	}
	l, _ := b.head.Select(ms, mint, maxt)
	lists = append(lists, l)
	return slices.DeleteFunc(lists, func(l []api.Series) bool { return len(l) == 0 })
}

// find is what a block has; most blocks are of another time.
func (p part) find(ms []api.Matcher, mint, maxt int) []api.Series {
	if !p.meets(mint, maxt) {
		return nil
	}
	l, _ := p.head.Select(ms, mint, maxt)
	return l
}

// meets tells whether a block may have samples of some time.
func (p part) meets(mint, maxt int) bool { return mint < p.meta.Max && p.meta.Min <= maxt }

// merged tells lists, each of which rises and has each series once, as one. One alone is so already: most calls ask for times that only the head has.
func merged(lists [][]api.Series) iter.Seq[api.Series] {
	if len(lists) == 1 {
		return slices.Values(lists[0])
	}
	return compact.Merge(lists...)
}

// risen is texts rising, each once.
func risen(l []string) []string {
	slices.Sort(l)
	return slices.Compact(l)
}
