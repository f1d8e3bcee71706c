package head_test

import (
	"bytes"
	"slices"
	"testing"

	"vigil/api"
	"vigil/head"
)

// spoil changes all labels and samples, spare room included.
func spoil(l []api.Series) {
	for _, s := range l[:cap(l)] {
		spoilLabels(s.Labels)
		for i := range s.Samples[:cap(s.Samples)] {
			s.Samples[:cap(s.Samples)][i] = api.Sample{T: -77, V: -77}
		}
	}
}

func spoilLabels(l []api.Label) {
	for i := range l[:cap(l)] {
		l[:cap(l)][i] = api.Label{Name: "spoilt", Value: "spoilt"}
	}
}

func spoilGone(l []api.Gone) {
	for i, x := range l[:cap(l)] {
		spoilLabels(x.Labels)
		l[:cap(l)][i] = api.Gone{Min: -77, Max: -77}
	}
}

func stocked(t *testing.T) (*head.Head, *model) {
	t.Helper()
	h, m := head.New(1<<40), newModel(1<<40)
	batch := []api.Point{point("a=1", 1, 1), point("a=1", 2, 2), point("a=1", 3, 3), point("a=2 b=1", 2, 4), point("a=1", 4, 3)}
	gone := []api.Gone{{Labels: set("a=1"), Min: 2, Max: 2}, {Labels: set("a=1"), Min: 4, Max: 4}}
	h.Commit(batch)
	m.commit(batch)
	h.Bury(gone)
	m.buryAll(gone)
	return h, m
}

// R2: what is answered is new memory, and no two lists of it share any.
func TestAnswersAreNew(t *testing.T) {
	h, m := stocked(t)
	l, _ := h.Select(nil, 0, 9)
	spoil(l)
	wantSame(t, h, m)
	for s := range h.All() {
		spoil([]api.Series{s})
	}
	wantSame(t, h, m)
	series, gone := h.Cut(0, 9)
	was := spelt(series)
	spoilGone(gone)
	if spelt(series) != was {
		t.Fatal("Cut's lists share memory")
	}
	spoil(series)
	wantSame(t, h, m)
	_, gone = h.Cut(0, 9)
	spoilLabels(gone[0].Labels)
	if !slices.Equal(gone[1].Labels, set("a=1")) {
		t.Fatal("two pieces share their labels")
	}
	gone, _ = h.Delete(nil, 1, 1)
	m.delete(nil, 1, 1)
	spoilGone(gone)
	wantSame(t, h, m)
	for _, names := range [][]string{h.Names(), h.Values("a")} {
		for i := range names[:cap(names)] {
			names[:cap(names)][i] = "spoilt"
		}
	}
	wantSame(t, h, m)
	raw := h.Record([]api.Point{point("a=1", 8, 1)})
	other := h.Record([]api.Point{point("a=1", 8, 1)})
	for i := range raw[:cap(raw)] {
		raw[:cap(raw)][i] = 0xaa
	}
	if e := h.Replay(other); e != api.OK {
		t.Fatal("two Records share memory", e)
	}
	m.commit([]api.Point{point("a=1", 8, 1)})
	wantSame(t, h, m)
}

// R2: what is handed in is neither changed nor kept.
func TestArgumentsAreLeft(t *testing.T) {
	h, m := head.New(1<<40), newModel(1<<40)
	room := append(set("a=1 b=2"), api.Label{Name: "spare", Value: "room"})
	batch := []api.Point{{Labels: room[:2], T: 1, V: 1}, point("c=1", 3, 1), point("c=1", 2, 1), point("z=1", 9, 9)}
	for _, call := range []func(){
		func() { h.Plan(batch[:3]) },
		func() { h.Record(batch[:3]) },
		func() { h.Commit(batch[:3]) },
	} {
		call()
		if batch[3].T != 9 || batch[1].T != 3 || room[2].Name != "spare" || !slices.Equal(batch[0].Labels, set("a=1 b=2")) {
			t.Fatal("the batch is changed")
		}
	}
	m.commit(batch[:3])
	spoilLabels(room)
	spoilLabels(batch[1].Labels)
	wantSame(t, h, m)

	series := []api.Series{{Labels: set("d=1"), Samples: row(5, 6, 7, 99)[:3]}}
	gone := []api.Gone{{Labels: set("d=1"), Min: 6, Max: 6}}
	h.Load(series, gone)
	if series[0].Samples[:4][3].T != 99 || short(series) != "d=1: 5 6 7" || speltGone(gone) != "{d=\"1\"} 6 6\n" {
		t.Fatal("what was loaded is changed")
	}
	m.load(series, gone)
	h.Commit([]api.Point{point("d=1", 8, 1)})
	m.commit([]api.Point{point("d=1", 8, 1)})
	if series[0].Samples[:4][3].T != 99 {
		t.Fatal("spare room of what was loaded is changed")
	}
	spoil(series)
	spoilGone(gone)
	wantSame(t, h, m)

	raw := h.Record([]api.Point{point("e=1", 5, 1)})
	was := bytes.Clone(raw)
	h.Replay(raw)
	if !bytes.Equal(raw, was) {
		t.Fatal("Replay has changed its bytes")
	}
	m.commit([]api.Point{point("e=1", 5, 1)})
	for i := range raw {
		raw[i] = 0xaa
	}
	wantSame(t, h, m)

	ms := []api.Matcher{{Kind: api.Match, Name: "a", Value: "1"}, {Kind: api.Equal, Name: "b", Value: "2"}}
	kept := slices.Clone(ms)
	h.Select(ms, 0, 9)
	h.Delete(ms[:1], 100, 200)
	head.Matches(ms, set("a=1"))
	if !slices.Equal(ms, kept) {
		t.Fatal("matchers are changed")
	}
}

// R4: two Heads know nothing of each other.
func TestHeadsApart(t *testing.T) {
	a, b := head.New(10), head.New(10)
	a.Commit([]api.Point{point("a=1", 50, 1)})
	if b.Newest() != -api.MaxTime-1 || len(told(b)) != 0 {
		t.Fatal("Heads are mixed up")
	}
	b.Commit([]api.Point{point("a=1", 5, 1)})
	if a.Newest() != 50 || short(told(a)) != "a=1: 50" || short(told(b)) != "a=1: 5" {
		t.Fatal("Heads are mixed up")
	}
}
