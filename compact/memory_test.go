package compact_test

import (
	"slices"
	"testing"

	"vigil/api"
	"vigil/compact"
)

func spoilLabels(l []api.Label) {
	for i := range l[:cap(l)] {
		l[:cap(l)][i] = api.Label{Name: "spoilt", Value: "spoilt"}
	}
}

// spoil changes all that a list of series reaches, spare room included.
func spoil(l []api.Series) {
	for i, s := range l[:cap(l)] {
		spoilLabels(s.Labels)
		for j := range s.Samples[:cap(s.Samples)] {
			s.Samples[:cap(s.Samples)][j] = api.Sample{T: -77, V: -77}
		}
		l[:cap(l)][i] = api.Series{}
	}
}

func spoilGone(l []api.Gone) {
	for i, x := range l[:cap(l)] {
		spoilLabels(x.Labels)
		l[:cap(l)][i] = api.Gone{Min: -77, Max: -77}
	}
}

// roomy is a list with spare room that holds something, and the whole of it.
func roomy[T any](spare T, l ...T) (part, whole []T) {
	whole = append(slices.Clone(l), spare, spare)
	return whole[:len(l)], whole
}

// roomySeries is the series with spare room everywhere, and the whole of each list.
func roomySeries(l []api.Series) (part, whole []api.Series) {
	var shown, all []api.Series
	for _, s := range l {
		set, allSet := roomy(api.Label{Name: "spare", Value: "spare"}, s.Labels...)
		samples, allSamples := roomy(api.Sample{T: 4, V: 44}, s.Samples...)
		shown = append(shown, api.Series{Labels: set, Samples: samples})
		all = append(all, api.Series{Labels: allSet, Samples: allSamples})
	}
	part, whole = roomy(row("spare=1", 4, 44), shown...)
	return part, slices.Concat(all, whole)
}

func roomyGone(l []api.Gone) (part, whole []api.Gone) {
	var shown, all []api.Gone
	for _, x := range l {
		set, allSet := roomy(api.Label{Name: "spare", Value: "spare"}, x.Labels...)
		shown = append(shown, api.Gone{Labels: set, Min: x.Min, Max: x.Max})
		all = append(all, api.Gone{Labels: allSet, Min: x.Min, Max: x.Max})
	}
	part, whole = roomy(gone("spare=1", 4, 44), shown...)
	return part, slices.Concat(all, whole)
}

// R2: nothing that is handed in is changed, its spare room included.
func TestArgumentsAreLeft(t *testing.T) {
	n := numbers(7)
	for range 500 {
		a, wholeA := roomySeries(n.series())
		b, wholeB := roomySeries(n.series())
		l, wholeL := roomyGone(n.holes())
		asA, asB, asL := spelt(wholeA), spelt(wholeB), speltGone(wholeL)
		for range compact.Merge(a, b, a) {
		}
		compact.Collect(slices.Values(a))
		compact.Less(a, l)
		compact.Union(l)
		compact.Span(a)
		if spelt(wholeA) != asA || spelt(wholeB) != asB || speltGone(wholeL) != asL {
			t.Fatal("an argument was changed")
		}
	}
	metas, whole := roomy(block("spare", 1, 2, 0), three()...)
	names, allNames := roomy("spare", "c", "a")
	at, allTimes := roomy(99, 13, 1, 12, 27)
	asWhole, asNames, asTimes := slices.Clone(whole), slices.Clone(allNames), slices.Clone(allTimes)
	compact.Cuts(at, 99, 10)
	compact.Removed(metas, 20)
	compact.Plan(metas, 30, 10)
	compact.Joined(metas, names)
	if !slices.Equal(whole, asWhole) || !slices.Equal(allNames, asNames) || !slices.Equal(allTimes, asTimes) {
		t.Fatal("an argument was changed")
	}
}

// R2: what Merge was given is not kept: it tells what was there when it was called.
func TestMergeKeepsNothing(t *testing.T) {
	lists := world()
	want := mergedByWords(world()...)
	all := compact.Merge(lists...)
	for i := range lists {
		spoil(lists[i])
		lists[i] = list(row("later=1", 1, 1))
	}
	wantSeries(t, "Merge", compact.Collect(all), want...)
}

// R2: what is answered is new memory: whoever changes it changes no argument, and no later answer.
func TestAnswersAreNew(t *testing.T) {
	lists := world()
	want := mergedByWords(lists...)
	as := spelt(slices.Concat(lists...))
	all := compact.Merge(lists...)
	for range 2 {
		for s := range all {
			spoil(list(s))
		}
		wantSeries(t, "behind spoilt series", compact.Collect(all), want...)
		spoil(compact.Collect(all))
	}
	wantSeries(t, "behind a spoilt list", compact.Collect(all), want...)
	spoil(compact.Collect(slices.Values(lists[0])))
	spoil(compact.Less(lists[0], nil))
	spoil(compact.Less(lists[2], holes(gone("b=1", 1, 1))))
	if spelt(slices.Concat(lists...)) != as {
		t.Fatal("an answer shares memory with an argument")
	}
	l := holes(gone("a=1", 1, 3), gone("a=1", 5, 6), gone("b=1", 1, 3))
	asGone := speltGone(l)
	spoilGone(compact.Union(l))
	if speltGone(l) != asGone {
		t.Fatal("an answer shares memory with an argument")
	}
	metas := three()
	names := compact.Removed(metas, 30)
	plan := compact.Plan(metas, 30, 10)
	for i := range names {
		names[i] = "spoilt"
	}
	wantNames(t, "Plan", plan, "a b c")
	wantNames(t, "Removed", compact.Removed(metas, 30), "c a b")
}

// R2: no two lists of one answer share memory.
func TestListsApart(t *testing.T) {
	x := row("a=1", 1, 1, 2, 2, 3, 3)
	shared := list(x, x, row("b=1", 1, 1))
	shared[1].Labels = x.Labels[:1:1]
	for _, l := range [][]api.Series{
		merged(list(x), list(row("a=2", 1, 1)), list(x)),
		compact.Collect(slices.Values(shared)),
		compact.Less(shared, nil),
		compact.Less(shared, holes(gone("a=1", 2, 2))),
	} {
		for i, s := range l {
			rest := spelt(l[i+1:])
			spoil(list(s))
			if spelt(l[i+1:]) != rest {
				t.Fatal("two series share memory")
			}
		}
	}
	sameSet := set("a=1")
	union := compact.Union(holes(api.Gone{Labels: sameSet, Min: 1, Max: 1}, api.Gone{Labels: sameSet, Min: 5, Max: 5}))
	spoilLabels(union[0].Labels)
	wantGone(t, "the second piece", union[1:], gone("a=1", 5, 5))
}
