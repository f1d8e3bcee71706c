package tsdb

import (
	"slices"
	"strconv"

	"vigil/api"
	"vigil/block"
	"vigil/compact"
	"vigil/head"
)

// Maintain lays samples into blocks, and has no more of log and blocks than is told. Each step leaves what is told as it is, whatever the disk does meanwhile: a sample is in a block ahead of being no more in the log, or in another block.
func (b *DB) Maintain() api.Errno {
	if b.log.Failed() {
		if e := b.settle(); e != api.OK {
			return e
		}
	}
	// What is too old goes ahead of what is laid: it makes room, and needs none. A join leaves blocks that have nothing to add.
	for _, step := range []func() api.Errno{b.meet, b.clear, b.cut, b.renew, b.join, b.clear, b.again} {
		if e := step(); e != api.OK {
			return e
		}
	}
	return api.OK
}

// meet takes in the blocks that the disk has come to have, or will have by the next SyncDir, whoever does it: one whose laying down was refused may lack nothing but that, where the disk was stopped and goes on. If the log were begun anew without knowing of it, what hides its deleted samples would be lost. Nothing comes to be told: all that it has was told when it was laid.
func (b *DB) meet() api.Errno {
	if !slices.Equal(b.disk.List(""), b.disk.Durable()) {
		if e := b.disk.SyncDir(); e != api.OK {
			return e
		}
	}
	b.gather()
	return api.OK
}

// clear removes the blocks that are too old, and those that add nothing to a joined one: a join that was cut short leaves such ones.
func (b *DB) clear() api.Errno {
	if e := b.remove(compact.Removed(b.Blocks(), b.Horizon())); e != api.OK {
		return e
	}
	var joined []part
	for _, p := range b.parts {
		if p.meta.Level > 0 {
			joined = append(joined, p)
		}
	}
	var names []string
	for _, p := range b.parts {
		if b.covered(p, joined) {
			names = append(names, p.meta.Name)
		}
	}
	return b.remove(names)
}

// covered tells whether greater ones of the joined blocks have all that a block tells.
func (b *DB) covered(p part, joined []part) bool {
	var greater []part
	for _, q := range joined {
		if q.meta.Level > p.meta.Level && q.meta.Min <= p.meta.Min && p.meta.Max <= q.meta.Max {
			greater = append(greater, q)
		}
	}
	return len(greater) > 0 && len(fresh(b.told(p), greater)) == 0
}

// told is the series of a block that are told.
func (b *DB) told(p part) []api.Series { return p.find(nil, b.Horizon(), api.MaxTime) }

// cut lays blocks of what is old enough for them.
func (b *DB) cut() api.Errno {
	for _, begin := range b.cuts() {
		behind := begin + b.store.Block
		l, _ := b.head.Select(nil, begin, behind-1)
		if l = fresh(l, b.parts); len(l) == 0 {
			continue
		}
		if e := b.lay(api.Meta{Min: max(begin, first), Max: behind}, l); e != api.OK {
			return e
		}
	}
	return api.OK
}

// cuts is where the pieces begin that the head has samples of, and that are old enough for blocks.
func (b *DB) cuts() []int {
	var times []int
	l, _ := b.head.Select(nil, first, api.MaxTime)
	for _, s := range l {
		for _, x := range s.Samples {
			times = append(times, x.T)
		}
	}
	return compact.Cuts(times, b.Newest(), b.store.Block)
}

// renew begins the log anew with what no block has, unless it is no more already.
func (b *DB) renew() api.Errno {
	rest := b.rest()
	gone := b.hiding(rest)
	raw := b.written(rest, gone)
	if b.log.Count() <= 1 && b.log.Bytes() <= len(raw) {
		return api.OK
	}
	if e := b.log.Checkpoint([][]byte{raw}); e != api.OK {
		return e
	}
	b.head, b.gone, b.unsure = rest, gone, false
	return api.OK
}

// again begins the log anew where the steps behind that have made it needful: joined blocks are laid without what is deleted, and the log may have been settled for them.
func (b *DB) again() api.Errno {
	if len(b.gone) == 0 && b.log.Count() <= 1 {
		return api.OK
	}
	return b.renew()
}

// rest is what the head need keep: what is told and too young for a block, and the last samples, deleted ones too, of all series that have one from the horizon on.
func (b *DB) rest() *head.Head {
	all, dead := b.head.Cut(first, end)
	var lasts []api.Series
	for _, s := range all {
		s.Samples = s.Samples[len(s.Samples)-1:]
		if s.Samples[0].T >= b.Horizon() {
			lasts = append(lasts, s)
		}
	}
	from := first
	if cuts := b.cuts(); len(cuts) > 0 {
		from = cuts[len(cuts)-1] + b.store.Block
	}
	young, _ := b.head.Select(nil, from, api.MaxTime)
	rest := head.New(b.store.Retention)
	rest.Load(slices.Collect(compact.Merge(young, lasts)), dead)
	return rest
}

// hiding is what of the deleted pieces still hides a sample of a block, or of the rest. They reach no farther than that: a series that is forgotten may have samples again behind the last one that is left of it.
func (b *DB) hiding(rest *head.Head) []api.Gone {
	if len(b.gone) == 0 {
		return nil
	}
	hidden := map[string][]api.Gone{}
	for _, p := range append([]part{{head: rest}}, b.parts...) {
		_, dead := p.head.Cut(first, end)
		for _, x := range dead {
			key := keyOf(x.Labels)
			hidden[key] = append(hidden[key], x)
		}
	}
	var out []api.Gone
	for _, x := range compact.Union(b.gone) {
		out = append(out, narrowed(x, hidden[keyOf(x.Labels)]))
	}
	return compact.Union(out)
}

// narrowed is a piece up to the last time at which it meets one of the others; if it meets none, one that holds nothing.
func narrowed(x api.Gone, others []api.Gone) api.Gone {
	last := x.Min - 1
	for _, y := range others {
		if x.Min <= y.Max && y.Min <= x.Max {
			last = max(last, min(x.Max, y.Max))
		}
	}
	x.Max = last
	return x
}

// keyOf is a text that no other labels have.
func keyOf(l []api.Label) string { return string(appendLabels(nil, l)) }

// written is the record that a log of that rest has.
func (b *DB) written(rest *head.Head, gone []api.Gone) []byte {
	var batch []api.Point
	l, _ := rest.Cut(first, end)
	for _, s := range l {
		for _, x := range s.Samples {
			batch = append(batch, api.Point{Labels: s.Labels, T: x.T, V: x.V})
		}
	}
	r := record{points: endless().Record(batch), gone: gone}
	for _, key := range b.Keys() {
		r.states = append(r.states, api.Label{Name: key, Value: b.State(key)})
	}
	return r.bytes()
}

// join makes one of several blocks, as long as some are to be joined.
func (b *DB) join() api.Errno {
	for {
		names := compact.Plan(b.Blocks(), b.Newest(), b.store.Block)
		if len(names) == 0 {
			return api.OK
		}
		var lists [][]api.Series
		for _, p := range b.parts {
			if slices.Contains(names, p.meta.Name) {
				lists = append(lists, b.told(p))
			}
		}
		meta, _ := compact.Joined(b.Blocks(), names)
		if l := slices.Collect(compact.Merge(lists...)); len(l) > 0 {
			if e := b.lay(meta, l); e != api.OK {
				return e
			}
		}
		if e := b.remove(names); e != api.OK {
			return e
		}
	}
}

// lay writes a block. What it has must be durable in the log ahead of that, since a batch is there whole or not at all.
func (b *DB) lay(m api.Meta, series []api.Series) api.Errno {
	if e := b.settle(); e != api.OK {
		return e
	}
	m.Name = b.free()
	if e := block.Write(b.disk, m, series, nil); e != api.OK {
		return e
	}
	b.add(m, series, nil)
	return api.OK
}

// free is a name that no block has.
func (b *DB) free() string {
	names := block.List(b.disk)
	for {
		b.number++
		if name := "b" + strconv.Itoa(b.number); !slices.Contains(names, name) {
			return name
		}
	}
}

// remove removes blocks. Why they are needed no more must be durable ahead of that: the newest time, and what is deleted. One that the disk goes on to have is one of the store's still, so that what hides its samples is kept.
func (b *DB) remove(names []string) api.Errno {
	for _, name := range names {
		if e := b.settle(); e != api.OK {
			return e
		}
		e := block.Remove(b.disk, name)
		if !slices.Contains(block.List(b.disk), name) {
			b.parts = slices.DeleteFunc(b.parts, func(p part) bool { return p.meta.Name == name })
		}
		if e != api.OK && e != api.ErrNone {
			return e
		}
	}
	return api.OK
}

// fresh is the samples of series that none of the blocks tells.
func fresh(series []api.Series, parts []part) []api.Series {
	mint, maxt, _ := compact.Span(series)
	var near []part
	for _, p := range parts {
		if p.meets(mint, maxt) {
			near = append(near, p)
		}
	}
	var out []api.Series
	for _, s := range series {
		out = append(out, compact.Less([]api.Series{s}, held(s, near))...)
	}
	return out
}

// held is the samples of a series that blocks tell, as pieces; and of those that have more labels beside its own.
func held(s api.Series, parts []part) []api.Gone {
	var ms []api.Matcher
	for _, x := range s.Labels {
		ms = append(ms, api.Matcher{Kind: api.Equal, Name: x.Name, Value: x.Value})
	}
	var out []api.Gone
	for _, p := range parts {
		for _, x := range p.find(ms, s.Samples[0].T, s.Samples[len(s.Samples)-1].T) {
			for _, sample := range x.Samples {
				out = append(out, api.Gone{Labels: x.Labels, Min: sample.T, Max: sample.T})
			}
		}
	}
	return out
}
