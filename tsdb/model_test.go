package tsdb_test

import (
	"fmt"
	"maps"
	"math"
	"os"
	"runtime/debug"
	"slices"
	"strings"
	"testing"

	"vigil/api"
	"vigil/disk"
	"vigil/head"
	"vigil/tsdb"
)

// room is more than any of the tests fills.
const room = 1 << 22

// The tests make many small stores, and throw them away: collected one by one, these take most of the time.
func TestMain(m *testing.M) {
	debug.SetGCPercent(800)
	os.Exit(m.Run())
}

// plain is a store of short blocks that forgets nothing.
var plain = api.Store{Block: 10, Retention: 1 << 40}

// set makes labels of texts like a=1.
func set(l ...string) []api.Label {
	var out []api.Label
	for _, x := range l {
		name, value, _ := strings.Cut(x, "=")
		out = append(out, api.Label{Name: name, Value: value})
	}
	return out
}

func point(l string, t int, v float64) api.Point {
	return api.Point{Labels: set(strings.Fields(l)...), T: t, V: v}
}

func is(name, value string) api.Matcher {
	return api.Matcher{Kind: api.Equal, Name: name, Value: value}
}

// call is an Append, or a Delete.
type call struct {
	batch      []api.Point
	states     []api.Label
	deletes    bool
	ms         []api.Matcher
	mint, maxt int
}

func appends(l ...api.Point) call { return call{batch: l} }

func sets(states ...string) call { return call{states: set(states...)} }

func deletes(mint, maxt int, ms ...api.Matcher) call {
	return call{deletes: true, ms: ms, mint: mint, maxt: maxt}
}

// answer is what a call answers.
type answer struct {
	plan []api.Errno
	n    int
	e    api.Errno
}

func (a answer) String() string { return fmt.Sprint(a.plan, a.n, a.e) }

// do makes a call.
func do(b *tsdb.DB, c call) answer {
	if c.deletes {
		n, e := b.Delete(c.ms, c.mint, c.maxt)
		return answer{n: n, e: e}
	}
	plan, e := b.Append(c.batch, c.states)
	return answer{plan: plan, e: e}
}

// teller is what a DB tells, and what a model does.
type teller interface {
	Select(ms []api.Matcher, mint, maxt int) ([]api.Series, api.Errno)
	Names() []string
	Values(name string) []string
	Last(l []api.Label) (api.Sample, bool)
	State(key string) string
	Keys() []string
	Newest() int
	Horizon() int
}

// model is the content as the chapter says it: a Head, and states.
type model struct {
	*head.Head
	states map[string]string
}

func newModel(retention int, calls ...call) *model {
	m := &model{head.New(retention), map[string]string{}}
	for _, c := range calls {
		m.take(c)
	}
	return m
}

func (m *model) Last(l []api.Label) (api.Sample, bool) {
	x, ok := m.Head.Last(l)
	if !ok || x.T < m.Horizon() {
		return api.Sample{}, false
	}
	return x, true
}

func (m *model) State(key string) string { return m.states[key] }

func (m *model) Keys() []string { return slices.Sorted(maps.Keys(m.states)) }

// after is the states behind those of a call.
func (m *model) after(states []api.Label) map[string]string {
	out := maps.Clone(m.states)
	for _, x := range states {
		if out[x.Name] = x.Value; x.Value == "" {
			delete(out, x.Name)
		}
	}
	return out
}

// ask is what a call answers where no disk refuses it, and whether there is anything to be kept of it.
func (m *model) ask(c call) (answer, bool) {
	if c.deletes {
		l, e := m.Select(c.ms, c.mint, c.maxt)
		return answer{n: len(l), e: e}, len(l) > 0
	}
	plan := m.Plan(c.batch)
	return answer{plan: plan}, slices.Contains(plan, api.OK) || !maps.Equal(m.after(c.states), m.states)
}

func (m *model) take(c call) {
	if !c.deletes {
		m.Commit(c.batch)
		m.states = m.after(c.states)
	} else if _, keeps := m.ask(c); keeps {
		m.Delete(c.ms, c.mint, c.maxt)
	}
}

// shown writes series with all bits of their values.
func shown(l []api.Series) string {
	var out strings.Builder
	for _, s := range l {
		fmt.Fprint(&out, s.Labels)
		for _, x := range s.Samples {
			fmt.Fprintf(&out, " %d:%x", x.T, math.Float64bits(x.V))
		}
		out.WriteByte('\n')
	}
	return out.String()
}

// someSets are those that the tests use, and some that no series has.
func someSets() [][]api.Label {
	return [][]api.Label{set("a=1"), set("a=2"), set("a=1", "b=1"), set("a=1", "b=2"), set("b=1"), set("c=3"), set("a=9"), set("z=1"), nil, set("b=1", "a=1")}
}

// picture is all that is told.
func picture(x teller) string {
	var out strings.Builder
	for _, ms := range [][]api.Matcher{nil, {is("a", "1")}, {{Kind: api.Match, Name: "b", Value: "1|2"}}, {{Kind: api.NotEqual, Name: "a", Value: "1"}, is("z", "")}} {
		for _, r := range [][2]int{{math.MinInt, math.MaxInt}, {-5, 15}, {x.Newest() - 15, x.Newest() - 1}, {5, -5}} {
			l, e := x.Select(ms, r[0], r[1])
			fmt.Fprint(&out, ms, r, e, "\n", shown(l))
		}
	}
	_, e := x.Select([]api.Matcher{{Kind: 0}, {Kind: api.Match, Value: "("}}, 0, 9)
	fmt.Fprint(&out, e)
	_, e = x.Select([]api.Matcher{{Kind: api.Match, Value: "("}}, 0, 9)
	fmt.Fprint(&out, e, x.Names(), "\n")
	for _, name := range []string{"a", "b", "c", "z", ""} {
		fmt.Fprint(&out, name, x.Values(name))
	}
	for _, l := range someSets() {
		last, ok := x.Last(l)
		fmt.Fprintf(&out, "%v %d %x %v\n", l, last.T, math.Float64bits(last.V), ok)
	}
	for _, key := range append(x.Keys(), "", "k", "no such key") {
		fmt.Fprintf(&out, "%q %q\n", key, x.State(key))
	}
	fmt.Fprint(&out, len(x.Keys()), x.Newest(), x.Horizon())
	return out.String()
}

// wantSame asks that a DB tells what a model does.
func wantSame(t *testing.T, b *tsdb.DB, m *model, why ...any) {
	t.Helper()
	if got, want := picture(b), picture(m); got != want {
		t.Fatal(append(why, "\ntold:\n"+got, "\nwanted:\n"+want)...)
	}
	var l []api.Series
	for s := range b.All() {
		l = append(l, s)
	}
	all, _ := m.Select(nil, -api.MaxTime, api.MaxTime)
	if shown(l) != shown(all) {
		t.Fatal(append(why, "All:\n"+shown(l), "\nwanted:\n"+shown(all))...)
	}
}

func opened(t *testing.T, d *disk.Disk, s api.Store) *tsdb.DB {
	t.Helper()
	ops := d.Ops()
	b, e := tsdb.Open(d, s)
	if e != api.OK || b == nil {
		t.Fatal("Open:", e)
	}
	if d.Ops() != ops {
		t.Fatal("Open did operations:", d.Ops()-ops)
	}
	if b.ReadOnly() {
		t.Fatal("read-only at first")
	}
	return b
}

// done makes calls that must all be answered as by a model, which takes them too.
func done(t *testing.T, b *tsdb.DB, m *model, calls ...call) {
	t.Helper()
	for _, c := range calls {
		want, _ := m.ask(c)
		if got := do(b, c); got.String() != want.String() {
			t.Fatal(c, "answered", got, "want", want)
		}
		m.take(c)
	}
}

func wantErrno(t *testing.T, got, want api.Errno) {
	t.Helper()
	if got != want {
		t.Fatal("answered", got, "want", want)
	}
}

func maintained(t *testing.T, b *tsdb.DB) {
	t.Helper()
	if e := b.Maintain(); e != api.OK {
		t.Fatal("Maintain:", e)
	}
}

// count is how many series and samples are told.
func count(b *tsdb.DB) (series, samples int) {
	for s := range b.All() {
		series++
		samples += len(s.Samples)
	}
	return series, samples
}
