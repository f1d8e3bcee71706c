package scrape_test

import (
	"fmt"
	"slices"
	"testing"

	"vigil/api"
	"vigil/scrape"
)

// roomy is a list with spare room that holds something, and the whole of it.
func roomy[T any](spare T, l ...T) (part, whole []T) {
	whole = append(slices.Clone(l), spare, spare)
	return whole[:len(l)], whole
}

// given is all that is handed to calls, with spare room everywhere, and what there is to look at.
type given struct {
	job    api.Job
	target api.Target
	full   api.Target // has as many labels as there may be
	line   api.Line
	before [][]api.Label
	body   []byte
	lists  [][]api.Label
	rules  [][]api.Relabel
	names  [][]string
	sets   [][][]api.Label
	bytes  []byte
}

// list is labels with spare room.
func (g *given) list(l []api.Label) []api.Label {
	part, whole := roomy(api.Label{Name: "spare", Value: "spare"}, l...)
	g.lists = append(g.lists, whole)
	return part
}

func (g *given) listOfSets(texts ...string) [][]api.Label {
	var l [][]api.Label
	for _, text := range texts {
		l = append(l, g.list(set(text)))
	}
	part, whole := roomy(set("spare=1"), l...)
	g.sets = append(g.sets, whole)
	return part
}

func (g *given) listOfRules(l ...api.Relabel) []api.Relabel {
	for i, r := range l {
		part, whole := roomy("spare", r.Sources...)
		l[i].Sources, g.names = part, append(g.names, whole)
	}
	part, whole := roomy(api.Relabel{Action: api.Drop}, l...)
	g.rules = append(g.rules, whole)
	return part
}

func newGiven() *given {
	g := &given{}
	g.job = api.Job{Name: "j", Interval: 10, Relabel: g.listOfRules(plain(api.Replace), plain(api.LabelMap)), Targets: g.listOfSets("__address__=h z=1 job=k", "__address__=h a=1", "", "__address__=h a=1")}
	g.job.Metric = g.listOfRules(
		api.Relabel{Action: api.LabelDrop, Regex: "drop"}, api.Relabel{Action: api.Replace, Sources: []string{"a", "b"}, Regex: "(.*)", Target: "c", Replacement: "$1"}, api.Relabel{Action: api.LabelMap, Regex: "(a)", Replacement: "x_$1"}, api.Relabel{Action: api.HashMod, Sources: []string{"a"}, Modulus: 5, Target: "h"}, api.Relabel{Action: api.LabelKeep, Regex: "[^z].*"}, api.Relabel{Action: api.Upper, Sources: []string{"a"}, Target: "a"}, api.Relabel{Action: api.Lower, Sources: []string{"a"}, Target: "l"}, api.Relabel{})
	g.target = api.Target{Job: "j", Labels: g.list(set("a=1 b=2 instance=h")), URL: "u", Offset: 3}
	g.full = api.Target{Labels: g.list(numbered(api.MaxLabels))}
	g.line = api.Line{Labels: g.list(set("__name__=m a=1 drop=1 exported_a=2")), V: 1}
	g.before = g.listOfSets("__name__=z", "__name__=m", "__name__=a")
	g.body, g.bytes = roomy('x', []byte("m{a=\"1\",drop=\"2\"} 1\nm{a=\"1\"} 2\nk 1 2\n# TYPE k gauge\n")...)
	return g
}

// spelt is all of it.
func (g *given) spelt() string {
	return fmt.Sprint(g.lists, g.rules, g.names, g.sets, g.bytes, g.job, g.target, g.line)
}

// spoil changes all of it.
func (g *given) spoil() {
	for _, l := range g.lists {
		spoilLabels(l)
	}
	for _, l := range g.rules {
		clear(l)
	}
	for _, l := range g.names {
		clear(l)
	}
	for _, l := range g.sets {
		clear(l)
	}
	clear(g.bytes)
}

func spoilLabels(l []api.Label) {
	for i := range l[:cap(l)] {
		l[:cap(l)][i] = api.Label{Name: "spoilt", Value: "spoilt"}
	}
}

// answers is all lists of labels that the calls answer.
func (g *given) answers() [][]api.Label {
	var out [][]api.Label
	points := func(l []api.Point) {
		for _, p := range l {
			out = append(out, p.Labels)
		}
	}
	for _, rules := range [][]api.Relabel{g.job.Metric, nil, g.job.Metric[:1], g.job.Metric[7:], g.job.Relabel} {
		for _, l := range append(slices.Clone(g.before), g.line.Labels, g.target.Labels) {
			set, _ := scrape.Relabel(l, rules)
			out = append(out, set)
		}
	}
	for _, t := range scrape.Targets(g.job) {
		out = append(out, t.Labels)
	}
	for _, j := range []api.Job{g.job, {}, {Honor: true}, {SampleLimit: 1}} {
		p, _ := scrape.Series(j, g.target, g.line)
		points([]api.Point{p})
		p, _ = scrape.Series(j, api.Target{}, g.line)
		points([]api.Point{p})
		batch, now, _, _ := scrape.Batch(j, g.target, 5, g.body, g.before)
		points(batch)
		out = append(out, now...)
		batch, now, _, _ = scrape.Batch(j, g.full, 5, g.body, g.before)
		points(batch)
		out = append(out, now...)
		points(scrape.Failure(j, g.target, 5, g.before))
		points(scrape.Failure(j, g.full, 5, g.before))
	}
	scrape.Check(g.job)
	scrape.Batch(g.job, g.target, 5, []byte("x"), g.before)
	return out
}

// R2: what is handed in is not changed, its spare room included.
func TestArgumentsAreLeft(t *testing.T) {
	g := newGiven()
	was := g.spelt()
	g.answers()
	if got := g.spelt(); got != was {
		t.Errorf("%s became\n%s", was, got)
	}
}

// R2: what is handed in is not kept, and what is answered is new memory.
func TestNothingIsKept(t *testing.T) {
	g := newGiven()
	all := g.answers()
	was := fmt.Sprint(all)
	g.spoil()
	if got := fmt.Sprint(all); got != was {
		t.Errorf("%s became\n%s", was, got)
	}
	g = newGiven()
	if got := fmt.Sprint(g.answers()); got != was {
		t.Errorf("%s, the second time\n%s", was, got)
	}
}

// R2: whoever changes an answer, its spare room too, changes no argument and no other part of the answer.
func TestAnswersAreApart(t *testing.T) {
	g := newGiven()
	all := g.answers()
	was := g.spelt()
	for i, l := range all {
		behind := fmt.Sprint(all[i+1:])
		spoilLabels(l)
		if fmt.Sprint(all[i+1:]) != behind {
			t.Fatal("two lists share memory", i)
		}
	}
	if got := g.spelt(); got != was {
		t.Errorf("%s became\n%s", was, got)
	}
}

// R2: lists of answers share no memory with those that were handed in.
func TestListsAreNew(t *testing.T) {
	before, whole := roomy(set("__name__=spare"), sets("__name__=z", "__name__=m")...)
	_, now, _, _ := scrape.Batch(api.Job{}, api.Target{}, 1, []byte("z 1\nm 1"), before)
	clear(now[:cap(now)])
	if speltSets(whole) != "__name__=z; __name__=m; __name__=spare; __name__=spare" {
		t.Error("before was changed", speltSets(whole))
	}
	_, now, _, _ = scrape.Batch(api.Job{}, api.Target{}, 1, []byte("z 1\nm 1"), before)
	clear(whole)
	if speltSets(now) != "__name__=m; __name__=z" {
		t.Error("before was kept", speltSets(now))
	}
}

// R2: an iterator keeps nothing of its target.
func TestStepsKeepNothing(t *testing.T) {
	target := api.Target{Offset: 3}
	all := scrape.Steps(target, 10, 0, 30)
	target.Offset = 5
	if got := slices.Collect(all); !slices.Equal(got, []int{3, 13, 23}) {
		t.Error(got)
	}
}

// R2: nil and empty lists are one.
func TestNilAndEmpty(t *testing.T) {
	empty := api.Job{Name: "j", Interval: 1, Targets: [][]api.Label{{}, {{Name: "__address__", Value: "h"}}}, Relabel: []api.Relabel{}, Metric: []api.Relabel{}}
	none := api.Job{Name: "j", Interval: 1, Targets: [][]api.Label{nil, {{Name: "__address__", Value: "h"}}}}
	if fmt.Sprint(scrape.Targets(empty)) != fmt.Sprint(scrape.Targets(none)) || scrape.Check(empty) != scrape.Check(none) {
		t.Error("Targets")
	}
	wantRelabel(t, []api.Label{}, "", []api.Relabel{}...)
	a, nowA, _, _ := scrape.Batch(empty, api.Target{Labels: []api.Label{}}, 1, []byte{}, [][]api.Label{})
	b, nowB, _, _ := scrape.Batch(none, api.Target{}, 1, nil, nil)
	if speltPoints(a) != speltPoints(b) || len(nowA)+len(nowB) > 0 {
		t.Error("Batch", speltPoints(a), speltPoints(b))
	}
	if speltPoints(scrape.Failure(none, api.Target{}, 1, [][]api.Label{})) != speltPoints(scrape.Failure(none, api.Target{}, 1, nil)) {
		t.Error("Failure")
	}
}

// R1: calls end, and none panics, whatever they are given.
func TestWrongInputs(t *testing.T) {
	strange := [][]api.Label{nil, {{}}, {{}, {}}, {{Name: "b", Value: "1"}, {Name: "a", Value: "1"}, {Name: "b", Value: "2"}}, {{Name: "\xff", Value: "\xff"}, {Name: "__name__"}}, slices.Repeat([]api.Label{{Name: "exported_a", Value: "1"}, {Name: "a", Value: "1"}}, 200), numbered(300)}
	rules := []api.Relabel{{}, {Action: api.LabelMap, Regex: "(.*)", Replacement: "a$1"}, {Action: api.Replace, Sources: []string{"a"}, Regex: "(.*)", Target: "$1", Replacement: "$1"}, {Action: api.LabelDrop, Regex: "\\w+"}, {Action: api.Upper, Sources: []string{"b"}, Target: "b"}}
	for _, l := range strange {
		scrape.Relabel(l, rules)
		for _, m := range strange {
			for _, j := range []api.Job{{}, {Metric: rules, Relabel: rules, Targets: strange}, {Honor: true, Interval: -1, Targets: strange}, {Name: "j", Interval: 1, Targets: strange}} {
				scrape.Check(j)
				scrape.Targets(j)
				target := api.Target{Labels: m, Offset: -5}
				scrape.Series(j, target, api.Line{Labels: l})
				scrape.Batch(j, target, 1<<63-1, []byte("a{a=\"1\",b=\"2\"} 1\n"), strange)
				scrape.Failure(j, target, -1<<63, strange)
			}
		}
	}
}
