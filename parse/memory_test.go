package parse_test

import (
	"fmt"
	"math"
	"slices"
	"strings"
	"testing"

	"vigil/api"
	"vigil/parse"
)

// roomy is l with spare room that holds something.
func roomy[T any](spare T, l []T) []T {
	return append(slices.Clone(l), spare, spare)[:len(l)]
}

// roomyTree is e in memory of its own, with spare room everywhere.
func roomyTree(e api.Expr) api.Expr {
	e.Matchers = roomy(api.Matcher{Kind: api.Equal, Name: "spare", Value: "spare"}, e.Matchers)
	e.Names = roomy("spare", e.Names)
	e.Include = roomy("spare", e.Include)
	var kids []api.Expr
	for _, kid := range e.Kids {
		kids = append(kids, roomyTree(kid))
	}
	e.Kids = roomy(number(7), kids)
	return e
}

// speltWhole is all of e, spare room included.
func speltWhole(e api.Expr) string {
	out := spelt(e) + fmt.Sprint(e.Matchers[:cap(e.Matchers)], e.Names[:cap(e.Names)], e.Include[:cap(e.Include)])
	for _, kid := range e.Kids[:cap(e.Kids)] {
		out += speltWhole(kid)
	}
	return out
}

// spoilTree changes all lists of e, spare room included.
func spoilTree(e api.Expr) {
	for _, kid := range e.Kids[:cap(e.Kids)] {
		spoilTree(kid)
	}
	for i := range e.Matchers[:cap(e.Matchers)] {
		e.Matchers[:cap(e.Matchers)][i] = api.Matcher{Kind: 77, Name: "spoilt", Value: "spoilt"}
	}
	for _, l := range [][]string{e.Names[:cap(e.Names)], e.Include[:cap(e.Include)]} {
		for i := range l {
			l[i] = "spoilt"
		}
	}
	for i := range e.Kids[:cap(e.Kids)] {
		e.Kids[:cap(e.Kids)][i] = api.Expr{Kind: 77}
	}
}

// manyLists has lists of every kind, several of each.
const manyLists = `sum by (x, y) (a{b="c"} == bool on (x) group_left (y, z) (d offset 5m)) + on (x, y) group_right (v) max_over_time((e{f=~"g", h!="i"})[1h:] @ 5) - -topk without (p, q) (scalar(r), s)`

// R2: what is handed in is not changed, its spare room included.
func TestTreesAreLeft(t *testing.T) {
	for _, e := range append(someTrees(t), read(t, manyLists), read(t, manyLists).Kids[0]) {
		e = roomyTree(e)
		was := speltWhole(e)
		parse.Type(e)
		parse.Right(e)
		parse.Text(e)
		parse.Depth(e)
		for _, x := range parse.Selectors(e) {
			spoilTree(x)
		}
		for x := range parse.Walk(e) {
			spoilTree(x)
		}
		if now := speltWhole(e); now != was {
			t.Errorf("%s became %s", was, now)
		}
	}
}

// R2: what is handed in is not kept: not by what is answered, and not by an iterator that goes on behind the call.
func TestTreesAreNotKept(t *testing.T) {
	e := roomyTree(read(t, manyLists))
	want := walked(e)
	all, selectors := parse.Walk(e), parse.Selectors(e)
	wantSelectors := fmt.Sprint(selectors)
	spoilTree(e)
	var got []string
	for x := range all {
		got = append(got, spelt(x))
	}
	if !slices.Equal(got, want) || fmt.Sprint(selectors) != wantSelectors {
		t.Error(got, selectors)
	}
}

// R2: what is answered is new memory, and no two lists of it share any.
func TestToldTreesAreApart(t *testing.T) {
	e := read(t, manyLists)
	all := parse.Walk(e)
	want := walked(e)
	for range 2 {
		var got []string
		for x := range all {
			got = append(got, spelt(x))
			spoilTree(x)
		}
		if !slices.Equal(got, want) {
			t.Error(got)
		}
	}
	l := slices.Collect(all)
	for i, x := range l {
		spoilTree(x)
		for j, y := range l[i+1:] {
			if spelt(y) != want[i+1+j] {
				t.Fatal("what is told shares memory", i, i+1+j)
			}
		}
	}
	odd := metric("a")
	odd.Kids = []api.Expr{metric("b")}
	selectors := parse.Selectors(odd)
	spoilTree(selectors[0])
	if len(selectors) != 2 || spelt(selectors[1]) != spelt(metric("b")) || spelt(odd.Kids[0]) != spelt(metric("b")) {
		t.Error(selectors)
	}
}

// R2: what is read is new memory each time, and its lists are apart.
func TestReadTreesAreApart(t *testing.T) {
	want := spelt(read(t, manyLists))
	first := read(t, manyLists)
	second := read(t, manyLists)
	spoilTree(first)
	if spelt(second) != want || spelt(read(t, manyLists)) != want {
		t.Error("two answers share memory")
	}
	names := read(t, "a * on (x, y) group_left (z) b")
	for i := range names.Names[:cap(names.Names)] {
		names.Names[:cap(names.Names)][i] = "spoilt"
	}
	if !slices.Equal(names.Include, []string{"z"}) || spelt(names.Kids[0]) != spelt(metric("a")) {
		t.Error(spelt(names))
	}
	l, _, _ := parse.Matchers(`a{b="c"}`)
	clear(l[:cap(l)])
	wantMatchers(t, `a{b="c"}`, api.Matcher{Kind: api.Equal, Name: "__name__", Value: "a"}, api.Matcher{Kind: api.Equal, Name: "b", Value: "c"})
}

// R1: calls end, and none panics, whatever they are given.
func TestWrongTrees(t *testing.T) {
	strange := []api.Expr{{}, {Kind: -1}, {Kind: 99}, number(math.NaN()), text("\xff"), selector(), selector(api.Matcher{Kind: 99, Name: "\xff", Value: "("}), binary("", api.Expr{}), binary("+"), aggregate("count_values"), aggregate("count_values", number(1), metric("a")), aggregate("topk", metric("a")), call(""), call("label_join"), call("time", metric("a")), call("label_join", text("x"), text("x"), text("x"), text("x"), text("x")), subquery(-1, -1, api.Expr{}), {Kind: api.ESubquery}, {Kind: api.ENegate}, {Kind: api.EBinary}, {Kind: api.EAggregate}, {Kind: api.ECall}}
	for kind := range 10 {
		for _, x := range strange {
			for count := range 4 {
				e := x
				e.Kind, e.Kids = kind, slices.Repeat(strange, count)
				parse.Type(e)
				parse.Right(e)
				parse.Text(e)
				parse.Depth(e)
				parse.Selectors(e)
				for range parse.Walk(e) {
				}
			}
		}
	}
}

// R1: expressions as deep as may be, and wide ones.
func TestDeepTrees(t *testing.T) {
	const levels = 1 << 16
	deep := metric("a")
	for range levels - 1 {
		deep = negate(deep)
	}
	if d := parse.Depth(deep); d != levels {
		t.Error(d)
	}
	if got, why := parse.Type(deep); got != api.TVector || why != api.OK {
		t.Error(got, why)
	}
	wantRight(t, with(deep, func(e *api.Expr) { e.Text = "x" }), false)
	if parse.Right(deep) || parse.Text(deep) != "" || len(parse.Selectors(deep)) != 1 {
		t.Error("a deep one")
	}
	for x := range parse.Walk(deep) {
		if x.Kind != api.ENegate {
			t.Error(x.Kind)
		}
		break
	}
	wide := call("label_join", append([]api.Expr{metric("a")}, slices.Repeat([]api.Expr{text("b")}, levels)...)...)
	if !parse.Right(wide) || len(parse.Text(wide)) != len(`label_join(a)`)+5*levels {
		t.Error("a wide one")
	}
}

// R1: texts as long as may be, of any one piece.
func TestLongTexts(t *testing.T) {
	for _, piece := range strings.Split("( ) { } [ ] , : @ + - * / % = == != =~ !~ < <= > >= a 1 . .5 1e 1e+ \" ' ` \\ # _ : sum( sum abs( abs by on offset bool a{ a[ a[5m a[5m: a[5m:] [5m:] a@ a+ 1+ -( a==on( a*group_left( {a=\" {a=\"b\", \"a\" # \xff \x00", " ") {
		s := strings.Repeat(piece, api.MaxQuery/len(piece))
		parse.Parse(s)
		parse.Matchers(s)
		parse.Parse(s + s)
		spaced := strings.Repeat(piece+" ", api.MaxQuery/(len(piece)+1))
		parse.Parse(spaced)
		parse.Matchers(spaced)
	}
}
