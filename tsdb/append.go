package tsdb

import (
	"cmp"
	"slices"
	"strings"

	"vigil/api"
)

// tries is how often a refused call is taken back before that is left to a later one: a fault or two are outlasted so, and a disk that goes on to fail is not asked for ever.
const tries = 3

// Append makes a batch durable.
func (b *DB) Append(batch []api.Point, states []api.Label) ([]api.Errno, api.Errno) {
	plan := b.head.Plan(batch)
	changed := b.changes(states)
	if !slices.Contains(plan, api.OK) && len(changed) == 0 {
		return plan, api.OK
	}
	e := b.keep(record{points: b.head.Record(batch), states: changed})
	if e == api.OK {
		b.head.Commit(batch)
		b.put(changed)
	}
	return plan, e
}

// Delete deletes samples.
func (b *DB) Delete(ms []api.Matcher, mint, maxt int) (int, api.Errno) {
	told, e := b.Select(ms, mint, maxt)
	if e != api.OK || len(told) == 0 {
		return 0, e
	}
	var gone []api.Gone
	for _, s := range told {
		// Up to the last one that is there: a later sample may lie in that time, and is not meant.
		last := s.Samples[len(s.Samples)-1]
		gone = append(gone, api.Gone{Labels: s.Labels, Min: max(mint, first), Max: last.T})
	}
	if e := b.keep(record{gone: gone}); e != api.OK {
		return 0, e
	}
	b.bury(gone)
	return len(gone), api.OK
}

// changes is those states that are other ones than before, rising by their keys.
func (b *DB) changes(states []api.Label) []api.Label {
	latest := map[string]state{}
	for _, x := range states {
		latest[x.Name] = state{text: x.Value}
	}
	var out []api.Label
	for key, s := range latest {
		if s != b.states[key] {
			// Copied: they may be pieces of a longer text, which is not kept.
			out = append(out, api.Label{Name: strings.Clone(key), Value: strings.Clone(s.text)})
		}
	}
	slices.SortFunc(out, func(x, y api.Label) int { return cmp.Compare(x.Name, y.Name) })
	return out
}

// keep makes a record durable.
func (b *DB) keep(r record) api.Errno {
	e := b.log.Append(r.bytes())
	b.readOnly = e != api.OK
	switch e {
	case api.OK:
		b.unsure = false
	case api.ErrFull:
		// The disk has taken nothing of the record.
	default:
		b.unsure = true
		b.takeBack(e)
	}
	return e
}

// takeBack sees to it that whoever opens the disk next does not find a record that was refused, as far as the disk lets it.
func (b *DB) takeBack(e api.Errno) {
	for i := 0; i < tries && e == api.ErrIO; i++ {
		e = b.settle()
	}
}

// settle makes sure that the log's bytes are durable, and that none of them is of a call that was refused: behind a record that is kept neither can be. An empty one says nothing.
func (b *DB) settle() api.Errno {
	if !b.unsure {
		return api.OK
	}
	e := b.log.Append(nil)
	b.unsure = e != api.OK
	return e
}
