package tsdb_test

import (
	"fmt"
	"slices"
	"testing"

	"vigil/api"
	"vigil/disk"
)

// spare is a list with room behind it that holds something.
func spare[T any](l []T, something T) []T {
	out := append(slices.Clone(l), something, something)
	return out[:len(l)]
}

// whole is a list with its spare room.
func whole[T any](l []T) []T { return l[:cap(l)] }

func spoilLabels(l []api.Label) {
	for i := range whole(l) {
		whole(l)[i] = api.Label{Name: "spoilt", Value: "spoilt"}
	}
}

// spoil changes all that a list of series reaches, spare room included.
func spoil(l []api.Series) {
	for i, s := range whole(l) {
		spoilLabels(s.Labels)
		for j := range whole(s.Samples) {
			whole(s.Samples)[j] = api.Sample{T: -77, V: -77}
		}
		whole(l)[i] = api.Series{}
	}
}

func spoilTexts(l []string) {
	for i := range whole(l) {
		whole(l)[i] = "spoilt"
	}
}

// R2: what is handed in is not changed, its spare room included, and not kept.
func TestArguments(t *testing.T) {
	d := disk.New(room)
	b, m := opened(t, d, plain), newModel(plain.Retention)
	label := api.Label{Name: "spare", Value: "spare"}
	for i := range 30 {
		c := call{states: spare(set(fmt.Sprint("z=", i), "k=1", "z=2", "k=2"), label)}
		for _, l := range someSets() {
			c.batch = append(c.batch, api.Point{Labels: spare(l, label), T: i * 5, V: 1})
		}
		c.batch = spare(c.batch, api.Point{Labels: set("spare=1"), T: 1, V: 1})
		del := deletes(i*5-30, i*5-20)
		del.ms = spare([]api.Matcher{is("a", "1"), {Kind: api.Match, Name: "b", Value: "1?"}}, is("a", "2"))
		was := fmt.Sprint(whole(c.batch), whole(c.states), whole(del.ms))
		answer, _ := m.ask(c)
		if got := do(b, c); got.String() != answer.String() {
			t.Fatal(got, answer)
		}
		m.take(call{batch: slices.Clone(c.batch), states: c.states})
		done(t, b, m, del)
		b.Select(del.ms, 0, 1000)
		b.Last(c.batch[0].Labels)
		if i%5 == 4 {
			maintained(t, b)
		}
		if now := fmt.Sprint(whole(c.batch), whole(c.states), whole(del.ms)); now != was {
			t.Fatal("changed:\n", was, "\n", now)
		}
		for _, p := range c.batch {
			spoilLabels(p.Labels)
		}
		spoilLabels(c.states)
		for j := range whole(del.ms) {
			whole(del.ms)[j] = api.Matcher{}
		}
		wantSame(t, b, m)
	}
	wantSame(t, opened(t, d, plain), m)
}

// R2: what is answered is new memory, its spare room too.
func TestAnswers(t *testing.T) {
	d := disk.New(room)
	b, m := opened(t, d, plain), newModel(plain.Retention)
	for i := range 20 {
		done(t, b, m, appends(point("a=1", i*5, 1), point("a=2 b=1", i*5, 2), point("c=3", i, 3)), sets(fmt.Sprint("k", i%3, "=v")))
		if i == 15 {
			maintained(t, b)
		}
	}
	for _, r := range [][2]int{{0, 1000}, {0, 10}, {90, 100}} {
		l, _ := b.Select(nil, r[0], r[1])
		spoil(l)
		wantSame(t, b, m, r)
	}
	all := b.All()
	for s := range all {
		spoil([]api.Series{s})
	}
	wantSame(t, b, m)
	for range 2 {
		spoilTexts(b.Names())
		spoilTexts(b.Values("a"))
		spoilTexts(b.Keys())
		wantSame(t, b, m)
	}
	metas := b.Blocks()
	was := fmt.Sprint(metas)
	for i := range whole(metas) {
		whole(metas)[i] = api.Meta{Name: "spoilt"}
	}
	plan, _ := b.Append([]api.Point{point("a=1", 1, 1)}, nil)
	for i := range whole(plan) {
		whole(plan)[i] = api.ErrMany
	}
	if now := fmt.Sprint(b.Blocks()); now != was || len(metas) == 0 {
		t.Fatal(was, now)
	}
	maintained(t, b)
	wantSame(t, b, m)
	wantSame(t, opened(t, d, plain), m)
}
