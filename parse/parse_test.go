package parse_test

import (
	"fmt"
	"math"
	"strings"
	"testing"

	"vigil/api"
	"vigil/parse"
)

// spelt is all fields of an expression, floats by their bits; nil and empty lists are one.
func spelt(e api.Expr) string {
	var kids, matchers []string
	for _, kid := range e.Kids {
		kids = append(kids, spelt(kid))
	}
	for _, m := range e.Matchers {
		matchers = append(matchers, fmt.Sprintf("%d %q %q", m.Kind, m.Name, m.Value))
	}
	return fmt.Sprintf("{%d %x %q %s %d %d %d %v %d %v %v %v %v %q %d %q %s}",
		e.Kind, math.Float64bits(e.Num), e.Text, matchers, e.Range, e.Step, e.Offset, e.HasAt, e.At, e.Bool, e.On, e.By, e.Grouped, e.Names, e.Card, e.Include, kids)
}

// read parses a query that must be right.
func read(t *testing.T, s string) api.Expr {
	t.Helper()
	e, at, why := parse.Parse(s)
	if at != 0 || why != api.OK || !parse.Right(e) {
		t.Fatalf("Parse(%q) is %s, %d, %d, right: %v", s, spelt(e), at, why, parse.Right(e))
	}
	return e
}

// wantTree holds what a query is read as against an expression.
func wantTree(t *testing.T, s string, want api.Expr) {
	t.Helper()
	e, at, why := parse.Parse(s)
	if at != 0 || why != api.OK || spelt(e) != spelt(want) {
		t.Errorf("Parse(%q) is %s, %d, %d, not %s", s, spelt(e), at, why, spelt(want))
	}
}

// wantText holds the one form of a query against a text.
func wantText(t *testing.T, s, want string) {
	t.Helper()
	e, at, why := parse.Parse(s)
	if got := parse.Text(e); at != 0 || why != api.OK || got != want {
		t.Errorf("Text of %q is %q (%d, %d), not %q", s, got, at, why, want)
		return
	}
	if again := read(t, want); spelt(again) != spelt(e) {
		t.Errorf("%q is read as %s, %q as %s", s, spelt(e), want, spelt(again))
	}
}

// wantRefused tells that a query is refused, at that place, and that nothing else is answered.
func wantRefused(t *testing.T, s string, at int, why api.Errno) {
	t.Helper()
	e, gotAt, got := parse.Parse(s)
	if gotAt != at || got != why || spelt(e) != spelt(api.Expr{}) {
		t.Errorf("Parse(%.60q) is %.60s, %d, %d, not refused at %d by %d", s, spelt(e), gotAt, got, at, why)
	}
}

// refusal is a query, and where and why it is refused.
type refusal struct {
	s   string
	at  int
	why api.Errno
}

func wantAllRefused(t *testing.T, l []refusal) {
	t.Helper()
	for _, x := range l {
		wantRefused(t, x.s, x.at, x.why)
	}
}

// wantForm tells of each query, in which a § stands ahead of the place, that it is refused there by ErrForm.
func wantForm(t *testing.T, l ...string) {
	t.Helper()
	for _, s := range l {
		at := strings.Index(s, "§")
		if at < 0 {
			t.Fatalf("no place in %q", s)
		}
		wantRefused(t, s[:at]+s[at+len("§"):], at, api.ErrForm)
	}
}

func number(v float64) api.Expr { return api.Expr{Kind: api.ENumber, Num: v} }

func text(s string) api.Expr { return api.Expr{Kind: api.EString, Text: s} }

func metric(name string, others ...api.Matcher) api.Expr {
	return selector(append([]api.Matcher{{Kind: api.Equal, Name: "__name__", Value: name}}, others...)...)
}

func selector(l ...api.Matcher) api.Expr { return api.Expr{Kind: api.ESelector, Matchers: l} }

// over is the selector with a range of that many milliseconds.
func over(ms int, e api.Expr) api.Expr {
	e.Range = ms
	return e
}

func subquery(ms, step int, kid api.Expr) api.Expr {
	return api.Expr{Kind: api.ESubquery, Range: ms, Step: step, Kids: []api.Expr{kid}}
}

func negate(kid api.Expr) api.Expr { return api.Expr{Kind: api.ENegate, Kids: []api.Expr{kid}} }

func binary(op string, kids ...api.Expr) api.Expr {
	return api.Expr{Kind: api.EBinary, Text: op, Kids: kids}
}

func aggregate(name string, kids ...api.Expr) api.Expr {
	return api.Expr{Kind: api.EAggregate, Text: name, Kids: kids}
}

func call(name string, kids ...api.Expr) api.Expr {
	return api.Expr{Kind: api.ECall, Text: name, Kids: kids}
}

// with is e after a change.
func with(e api.Expr, change func(e *api.Expr)) api.Expr {
	change(&e)
	return e
}

// The chapter's Runs, row by row.
func TestRuns(t *testing.T) {
	for _, x := range [][2]string{
		{`1+2*3`, `1 + (2 * 3)`}, {`a - b - c`, `(a - b) - c`}, {`-a`, `-a`}, {`- 1`, `-1`},
		{`sum(a)by(x,y)`, `sum by (x, y) (a)`}, {`topk(3,a)`, `topk(3, a)`}, {`rate(a{b="c"}[5m])`, `rate(a{b="c"}[5m])`},
		{`a@1.5offset 1m`, `a @ 1.5 offset 1m`}, {`(a)[5m:1m]`, `(a)[5m:1m]`}, {`a and on (x) b`, `a and on (x) b`},
		{`a[5m]`, `a[5m]`},
		{`a == bool b`, `a == bool b`}, {`a / on (x) group_left (y) b`, `a / on (x) group_left (y) b`},
	} {
		wantText(t, x[0], x[1])
	}
	wantAllRefused(t, []refusal{
		{`{a=~".*"}`, 0, api.ErrBad}, {`a{b=~"("}`, 0, api.ErrBad}, {`sum`, 3, api.ErrForm}, {`foo(1)`, 0, api.ErrName}, {`1 == 2`, 0, api.ErrType}, {`rate(a)`, 0, api.ErrType},
		{`a +`, 3, api.ErrForm}, {`(a`, 2, api.ErrForm}, {`a b`, 2, api.ErrForm}, {`a{b}`, 3, api.ErrForm}, {`"x`, 0, api.ErrForm}, {`1m`, 1, api.ErrForm}, {`a offset 5`, 9, api.ErrForm},
		{`a offset 1m offset 2m`, 12, api.ErrForm}, {`(a) offset 1m`, 4, api.ErrForm}, {`a[0s]`, 2, api.ErrForm},
	})
}

// The chapter's Examples.
func TestExamples(t *testing.T) {
	wantForm(t, `sum§`)
	wantTree(t, `sum by (by) (a)`, with(aggregate("sum", metric("a")), func(e *api.Expr) { e.Grouped, e.By, e.Names = true, true, []string{"by"} }))
	wantText(t, `+a`, `a`)
	wantTree(t, `+a`, metric("a"))
}

// P13.1: MaxQuery bytes and one more, whatever else is wrong.
func TestLarge(t *testing.T) {
	long := strings.Repeat(" ", api.MaxQuery-1) + "a"
	wantTree(t, long, metric("a"))
	wantRefused(t, " "+long, 0, api.ErrLarge)
	wantRefused(t, strings.Repeat(" ", api.MaxQuery), api.MaxQuery, api.ErrForm)
	for _, s := range []string{"$", "foo(1)", strings.Repeat("-", 70) + "a", "1 == 2", "{}", "a"} {
		wantRefused(t, s+strings.Repeat(" ", api.MaxQuery+1-len(s)), 0, api.ErrLarge)
	}
	wantRefused(t, strings.Repeat("(", api.MaxQuery), api.MaxQuery, api.ErrForm)
	wantRefused(t, strings.Repeat("a,", api.MaxQuery/2), 1, api.ErrForm)
	wantTree(t, strings.Repeat("(", api.MaxQuery/2-1)+"ab"+strings.Repeat(")", api.MaxQuery/2-1), metric("ab"))
	wantTree(t, strings.Repeat("+", api.MaxQuery-1)+"a", metric("a"))
}

// P13.1: of several refusals the first is told.
func TestOrder(t *testing.T) {
	deep := strings.Repeat("-", api.MaxDepth)
	wantAllRefused(t, []refusal{
		// ErrForm or ErrName, whichever stands further ahead.
		{`foo(1) $`, 0, api.ErrName}, {`$ foo(1)`, 0, api.ErrForm}, {`a $ foo(1)`, 2, api.ErrForm}, {`a + foo($`, 4, api.ErrName}, {`a foo(1)`, 2, api.ErrForm},
		{`foo(bar(1))`, 0, api.ErrName}, {`abs(bar(1), foo(1))`, 4, api.ErrName}, {`foo(`, 0, api.ErrName}, {`1 + (foo (`, 5, api.ErrName}, {`abs(1 foo(1))`, 6, api.ErrForm},
		// These ahead of ErrLimit.
		{deep + `(1 == ) {}`, len(deep) + 6, api.ErrForm}, {deep + `foo({})`, len(deep), api.ErrName},
		// ErrLimit ahead of ErrType and ErrBad.
		{deep + `(1 == 2)`, 0, api.ErrLimit}, {deep + `{}`, 0, api.ErrLimit}, {deep + `"x"`, 0, api.ErrLimit},
		// ErrType ahead of ErrBad.
		{`rate({})`, 0, api.ErrType}, {`{} + "x"`, 0, api.ErrType}, {`{a=~"("} and 1`, 0, api.ErrType}, {`{}`, 0, api.ErrBad},
	})
}

// P13.1: a function that there is not, wherever it stands.
func TestNoSuchFunction(t *testing.T) {
	wantAllRefused(t, []refusal{
		{"foo # (\n()", 0, api.ErrName}, {` foo ()`, 1, api.ErrName}, {`a:b(1)`, 0, api.ErrName}, {`:(1)`, 0, api.ErrName}, {`Sum(a)`, 0, api.ErrName}, {`RATE(a[5m])`, 0, api.ErrName}, {`infinity(1)`, 0, api.ErrName},
		{`sum(foo(a))`, 4, api.ErrName}, {`sum by (foo) (foo(a))`, 14, api.ErrName}, {`-foo(a)`, 1, api.ErrName}, {`(foo(a))[5m:]`, 1, api.ErrName}, {`a == bool foo(a)`, 10, api.ErrName}, {`a * group_left foo(a)`, 15, api.ErrName}, {`time(), foo()`, 6, api.ErrForm},
		// A reserved word is none.
		{`bool(1)`, 0, api.ErrForm}, {`offset(1)`, 0, api.ErrForm}, {`and(a)`, 0, api.ErrForm}, {`inf(1)`, 3, api.ErrForm}, {`NaN (1)`, 4, api.ErrForm}, {`by(a)`, 0, api.ErrForm},
		// Nor is a label's name.
		{`a{foo(`, 5, api.ErrForm}, {`sum by (foo(`, 11, api.ErrForm}, {`a + on (foo(`, 11, api.ErrForm}, {`a * group_left (foo(`, 19, api.ErrForm},
	})
	// Without a bracket behind it is a metric's name.
	wantTree(t, `foo`, metric("foo"))
	wantTree(t, `rate`, metric("rate"))
	wantTree(t, `foo + (a)`, binary("+", metric("foo"), metric("a")))
	wantTree(t, `foo{}`, metric("foo"))
}

// P13.1: a Depth of 64 is taken, one of 65 is not, by whatever it comes to it.
func TestLimit(t *testing.T) {
	for _, x := range [][2]string{{"-", ""}, {"abs(", ")"}, {"1 + (", ")"}, {"(", ") * 2"}, {"sum(", ")"}, {"max_over_time((", ")[1m:])"}} {
		each := parse.Depth(read(t, x[0]+"a"+x[1])) - 1
		fits, over := (api.MaxDepth-1)/each, (api.MaxDepth-1)/each+1
		read(t, strings.Repeat(x[0], fits)+"a"+strings.Repeat(x[1], fits))
		wantRefused(t, strings.Repeat(x[0], over)+"a"+strings.Repeat(x[1], over), 0, api.ErrLimit)
	}
	sums := strings.Repeat("a + ", api.MaxDepth-1)
	if d := parse.Depth(read(t, sums+"a")); d != api.MaxDepth {
		t.Error(d)
	}
	wantRefused(t, sums+"a + a", 0, api.ErrLimit)
	// Depth is that of the deepest, not of all together, and brackets and + count nothing.
	read(t, strings.Repeat("a + (", 60)+strings.Repeat("(+", 500)+"a"+strings.Repeat(")", 560))
	read(t, "("+strings.Repeat("-", 62)+"a) + ("+strings.Repeat("-", 62)+"a)")
	wantRefused(t, "("+strings.Repeat("-", 62)+"a) + ("+strings.Repeat("-", 63)+"a)", 0, api.ErrLimit)
}

// P13.1: what selectors are refused for, wherever they stand.
func TestBadSelectors(t *testing.T) {
	long := strings.Repeat("a", api.MaxRegex)
	for _, s := range []string{
		`{}`, `{a=""}`, `{a!="b"}`, `{a=~""}`, `{a=~".*"}`, `{a=~"b?"}`, `{a!~"b"}`, `{a!~".+"}`, `{a="",b!="c",d=~"e|",f!~"g"}`, `{__name__=""}`, `{__name__=~".*"}`,
		`a{b=~"("}`, `a{b!~"*"}`, `a{b=~"x{101}"}`, `a{b=~"` + long + `a"}`, `a{b=~"(a{100}){100}"}`, `{a=~"("}`,
		`a{__name__="b"}`, `a{__name__="a"}`, `a{__name__=""}`, `{__name__="a",__name__="b"}`, `{__name__="",__name__="b"}`, `{__name__="a",b="c",__name__="a"}`,
	} {
		for _, around := range []string{`§`, ` § `, `(§)`, `sum(§)`, `-§`, `1 + §`, `rate(§[5m])`, `§[5m]`, `max_over_time(§[5m:1m])`, `§ offset 5m`, `§ @ 5`, `a and § or a`} {
			wantRefused(t, strings.Replace(around, "§", s, 1), 0, api.ErrBad)
		}
	}
	for _, s := range []string{
		`{a="b"}`, `{a!=""}`, `{a=~"b"}`, `{a=~".+"}`, `{a!~""}`, `{a!~".*"}`, `{a!~"b?"}`, `{a="",b!=""}`, `{a=~".*",b="c"}`, `a{b=~".*"}`, `a{b=""}`, `a{}`, `a{b=~"` + long + `"}`, `a{b="("}`, `a{b!="*"}`,
		`a{__name__!="a"}`, `a{__name__=~"a"}`, `a{__name__!~"b",__name__!~"c"}`, `{__name__="",a="b"}`, `{a="b",__name__="c"}`, `{a="b",a="c"}`, `a{b="c",b="d",b!="e"}`,
	} {
		read(t, s)
	}
}
