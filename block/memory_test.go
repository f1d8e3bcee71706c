package block_test

import (
	"slices"
	"testing"

	"vigil/api"
	"vigil/block"
	"vigil/disk"
)

func spoilLabels(l []api.Label) {
	for i := range l[:cap(l)] {
		l[:cap(l)][i] = api.Label{Name: "spoilt", Value: "spoilt"}
	}
}

// spoil changes all that a list of series reaches, spare room included.
func spoil(l []api.Series) {
	for i, s := range l[:cap(l)] {
		spoilLabels(s.Labels)
		for j := range s.Samples[:cap(s.Samples)] {
			s.Samples[:cap(s.Samples)][j] = api.Sample{T: -77, V: -77}
		}
		l[:cap(l)][i] = api.Series{}
	}
}

func spoilGone(l []api.Gone) {
	for i, x := range l[:cap(l)] {
		spoilLabels(x.Labels)
		l[:cap(l)][i] = api.Gone{Min: -77, Max: -77}
	}
}

// R2: what a Block answers is new memory.
func TestAnswersAreNew(t *testing.T) {
	d := disk.New(room)
	p := large("b")
	put(t, d, p)
	b := reads(t, d, p)
	spoil(b.Series())
	wantTold(t, b, p)
	spoilGone(b.Gone())
	wantTold(t, b, p)
	found, _ := b.Find(nil)
	spoil(found)
	wantTold(t, b, p)
	for s := range b.All() {
		spoil([]api.Series{s})
	}
	wantTold(t, b, p)
	names := block.List(d)
	for i := range names[:cap(names)] {
		names[:cap(names)][i] = "spoilt"
	}
	wantList(t, d, "b")
	other := reads(t, d, p)
	spoil(b.Series())
	wantTold(t, other, p)
}

// R2: no two lists of one answer share memory, not even their spare room.
func TestListsApart(t *testing.T) {
	d := disk.New(room)
	p := large("b")
	put(t, d, p)
	b := reads(t, d, p)
	found, _ := b.Find(nil)
	for _, l := range [][]api.Series{b.Series(), found, slices.Collect(b.All())} {
		for i, s := range l {
			l[i] = api.Series{}
			spoil([]api.Series{s})
			if speltSeries(l[i+1:]) != speltSeries(p.series[i+1:]) {
				t.Fatal("two series share memory")
			}
		}
	}
	gone := b.Gone()
	for i := range gone {
		spoilLabels(gone[i].Labels)
		for j, x := range gone[i+1:] {
			if !slices.Equal(x.Labels, p.gone[i+1+j].Labels) {
				t.Fatal("two pieces share their labels")
			}
		}
	}
}

// R2: what is handed in is neither changed nor kept, its spare room included.
func TestArgumentsAreLeft(t *testing.T) {
	d := disk.New(room)
	p, kept := large("b"), large("b")
	for i := range p.series {
		s := &p.series[i]
		s.Samples = append(s.Samples, api.Sample{T: 99, V: 99})[:len(s.Samples)]
		s.Labels = append(s.Labels, api.Label{Name: "spare", Value: "room"})[:len(s.Labels)]
	}
	p.series = append(p.series, row("z=1", 1))[:len(p.series)]
	p.gone = append(p.gone, api.Gone{Min: 99})[:len(p.gone)]
	if !block.Right(p.meta, p.series, p.gone) {
		t.Fatal("not right")
	}
	want(t, write(d, p), api.OK)
	want(t, write(d, p), api.ErrThere)
	if p.spelt() != kept.spelt() {
		t.Fatal("changed")
	}
	for _, s := range p.series {
		if s.Samples[:len(s.Samples)+1][len(s.Samples)].T != 99 || s.Labels[:len(s.Labels)+1][len(s.Labels)].Name != "spare" {
			t.Fatal("spare room is changed")
		}
	}
	if p.series[:len(p.series)+1][len(p.series)].Labels[0].Name != "z" || p.gone[:len(p.gone)+1][len(p.gone)].Min != 99 {
		t.Fatal("spare room is changed")
	}
	spoil(p.series)
	spoilGone(p.gone)
	b := reads(t, d, kept)

	ms := append([]api.Matcher{{Kind: api.Match, Name: "a", Value: "1"}}, api.Matcher{Name: "spare"})
	b.Find(ms[:1])
	if ms[0] != (api.Matcher{Kind: api.Match, Name: "a", Value: "1"}) || ms[1].Name != "spare" {
		t.Fatal("matchers are changed")
	}
}
