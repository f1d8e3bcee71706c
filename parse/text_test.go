package parse_test

import (
	"math"
	"strings"
	"testing"

	"vigil/api"
	"vigil/num"
	"vigil/parse"
)

// wantWritten holds the text of a tree against one, and what is read of it against the tree.
func wantWritten(t *testing.T, e api.Expr, want string) {
	t.Helper()
	if got := parse.Text(e); got != want {
		t.Errorf("Text of %s is %q, not %q", spelt(e), got, want)
	}
	wantTree(t, want, e)
}

// P13.3: numbers and strings.
func TestTextOfNumbersAndStrings(t *testing.T) {
	for v, want := range map[float64]string{0: "0", 1: "1", 1.5: "1.5", 0.1: "0.1", 1e20: "100000000000000000000", 1e21: "1e+21", 1e-6: "0.000001", 1e-7: "1e-07", 5e-324: "5e-324", math.MaxFloat64: "1.7976931348623157e+308", math.Inf(1): "Inf"} {
		wantWritten(t, number(v), want)
		wantWritten(t, negate(number(v)), "-"+want)
	}
	wantWritten(t, number(math.Float64frombits(0x7ff8000000000001)), "NaN")
	wantText(t, "iNF", "Inf")
	wantText(t, "1e999", "Inf")
	wantText(t, "- NAN", "-NaN")
	wantText(t, "000.50", "0.5")
	for s, want := range map[string]string{"": `""`, "a": `"a"`, `\`: `"\\"`, `"`: `"\""`, "'": `"'"`, "`": "\"`\"", "\n": `"\n"`, "\t": `"\t"`, "\r": `"\r"`, "\x00\x01\x7f": "\"\x00\x01\x7f\"", "é€😀": `"é€😀"`, `\n`: `"\\n"`, "a\"b\\\nc'\t\r": `"a\"b\\\nc'\t\r"`, "\u2028\f\v": "\"\u2028\f\v\""} {
		wantWritten(t, text(s), want)
		wantWritten(t, metric("m", api.Matcher{Kind: api.Equal, Name: "x", Value: s}), "m{x="+want+"}")
	}
	for b := range 128 {
		s := string(rune(b))
		want, ok := map[byte]string{'"': `\"`, '\\': `\\`, '\n': `\n`, '\t': `\t`, '\r': `\r`}[byte(b)]
		if !ok {
			want = s
		}
		wantWritten(t, text("a"+s+"b"), `"a`+want+`b"`)
	}
}

// P13.3: selectors: when the name stands ahead, and when braces stand at all.
func TestTextOfSelectors(t *testing.T) {
	name := func(value string) api.Matcher { return api.Matcher{Kind: api.Equal, Name: "__name__", Value: value} }
	b, c := api.Matcher{Kind: api.Equal, Name: "b", Value: "1"}, api.Matcher{Kind: api.NotMatch, Name: "c", Value: "2"}
	wantWritten(t, selector(name("a")), "a")
	wantWritten(t, selector(name("a"), b), `a{b="1"}`)
	wantWritten(t, selector(name("a"), b, c), `a{b="1",c!~"2"}`)
	wantWritten(t, selector(b), `{b="1"}`)
	wantWritten(t, selector(b, c), `{b="1",c!~"2"}`)
	wantWritten(t, selector(c, b), `{c!~"2",b="1"}`)
	// A name that is not the first matcher, or another matcher of the name.
	wantWritten(t, selector(b, name("a")), `{b="1",__name__="a"}`)
	wantWritten(t, selector(api.Matcher{Kind: api.Match, Name: "__name__", Value: "a"}, b), `{__name__=~"a",b="1"}`)
	wantWritten(t, selector(api.Matcher{Kind: api.NotEqual, Name: "__name__", Value: "a"}, b), `{__name__!="a",b="1"}`)
	wantWritten(t, selector(api.Matcher{Kind: api.NotMatch, Name: "__name__", Value: ".*"}), `{__name__!~".*"}`)
	wantWritten(t, selector(name("a"), api.Matcher{Kind: api.NotEqual, Name: "__name__", Value: "b"}), `a{__name__!="b"}`)
	// A name that is reserved, or none.
	for _, word := range strings.Fields("sum avg min max count group stddev stdvar topk bottomk quantile count_values and or unless by without on ignoring group_left group_right bool offset inf nan Inf NaN iNf") {
		wantWritten(t, selector(name(word)), `{__name__="`+word+`"}`)
		wantWritten(t, over(1, selector(name(word), b)), `{__name__="`+word+`",b="1"}[1ms]`)
	}
	for _, value := range []string{"a b", "0", "a-b", "é", "a.b", " a", "{", strings.Repeat("x", api.MaxLabel+1)} {
		wantWritten(t, selector(name(value)), `{__name__="`+value+`"}`)
		wantWritten(t, selector(name(value), b), `{__name__="`+value+`",b="1"}`)
	}
	wantWritten(t, selector(name(""), b), `{__name__="",b="1"}`)
	for _, word := range []string{"Sum", "orr", "infinity", "rate", "time", ":", "a:b", ":1", "_", "A", strings.Repeat("x", api.MaxLabel)} {
		wantWritten(t, selector(name(word)), word)
		wantWritten(t, selector(name(word), b), word+`{b="1"}`)
	}
	// What is written one way and another.
	wantText(t, `{__name__="a"}`, `a`)
	wantText(t, `{ __name__ = 'a' , b = '1' , }`, `a{b="1"}`)
	wantText(t, `a{}`, `a`)
}

// P13.3: windows, and what moves them.
func TestTextOfWindows(t *testing.T) {
	for s, want := range map[string]string{
		"a[5m]": "a[5m]", "a[90s]": "a[1m30s]", "a[300000ms]": "a[5m]", "a[60m]": "a[1h]", "a[7d]": "a[1w]", "a[1ms]": "a[1ms]",
		"a offset 1m": "a offset 1m", "a offset -1m": "a offset -1m", "a offset - 90s": "a offset -1m30s", "a offset 0": "a", "a offset -0s": "a",
		"a @ 1": "a @ 1", "a @ 0": "a @ 0", "a @ -0": "a @ 0", "a @ -1.5": "a @ -1.5", "a @ 1.2345": "a @ 1.235", "a @ 1e3": "a @ 1000", "a @ 1e11": "a @ 100000000000", "a @ .001": "a @ 0.001",
		"a offset 1m @ 1": "a @ 1 offset 1m", "a[5m] offset 1m @ 1": "a[5m] @ 1 offset 1m", "a offset 0 @ 0": "a @ 0", `{b="1"}[5m] @ 1`: `{b="1"}[5m] @ 1`,
		"a[5m:]": "(a)[5m:]", "a[5m:60s]": "(a)[5m:1m]", "(a)[5m:] offset 1m @ 1": "(a)[5m:] @ 1 offset 1m", "a offset 1m [5m:] @ 2": "(a offset 1m)[5m:] @ 2", "1[5m:]": "(1)[5m:]", "rate(a[5m])[5m:]": "rate(a[5m])[5m:]",
	} {
		wantText(t, s, want)
	}
	for _, ms := range []int{1, 999, 1000, 59999, api.MaxTime - 1, api.MaxTime, 31536000000, 604800000} {
		d := num.DurationText(ms)
		wantWritten(t, over(ms, metric("a")), "a["+d+"]")
		wantWritten(t, subquery(ms, ms, metric("a")), "(a)["+d+":"+d+"]")
		wantWritten(t, with(metric("a"), func(e *api.Expr) { e.Offset = ms }), "a offset "+d)
		wantWritten(t, with(subquery(1, 0, number(1)), func(e *api.Expr) { e.Offset = -ms }), "(1)[1ms:] offset -"+d)
	}
	for _, at := range []int{0, 1, -1, 10, 999, 1000, -1500, 1609746000123, 99999999999999, 100000000000000, -100000000000000, -99999999999999} {
		wantWritten(t, with(metric("a"), func(e *api.Expr) { e.HasAt, e.At = true, at }), "a @ "+num.Seconds(at))
		wantWritten(t, with(subquery(1, 1, metric("a")), func(e *api.Expr) { e.HasAt, e.At, e.Offset = true, at, 1 }), "(a)[1ms:1ms] @ "+num.Seconds(at)+" offset 1ms")
	}
}

// P13.3: operators with all that may be said of them, and aggregations and functions.
func TestTextOfTheRest(t *testing.T) {
	for s, want := range map[string]string{
		"a+b": "a + b", "a==bool 1": "a == bool 1", "a==bool on(x)b": "a == bool on (x) b", "a/ignoring(x,y)b": "a / ignoring (x, y) b", "a and on()b": "a and on () b", "a or b": "a or b", "a unless ignoring()b": "a unless ignoring () b",
		"a*group_left b": "a * group_left () b", "a*group_right()b": "a * group_right () b", "a*group_left(x,y)b": "a * group_left (x, y) b", "a>=bool ignoring(z)group_right(x)b": "a >= bool ignoring (z) group_right (x) b", "a*on(x)group_left b": "a * on (x) group_left () b",
		"sum(a)": "sum(a)", "sum(a)by(x)": "sum by (x) (a)", "sum by()(a)": "sum by () (a)", "sum(a)without()": "sum without () (a)", "topk(3,a)by(x,y)": "topk by (x, y) (3, a)", "count_values('v',a)without(x)": `count_values without (x) ("v", a)`,
		"time( )": "time()", "abs( a )": "abs(a)", "clamp(a,1,2)": "clamp(a, 1, 2)", "label_join(a,'b',`c`,\"d\",'e')": `label_join(a, "b", "c", "d", "e")`, "quantile_over_time(.5,a[5m])": "quantile_over_time(0.5, a[5m])",
		"sum(a)[5m:]": "sum(a)[5m:]", "sum(a)by(x)[5m:]": "sum by (x) (a)[5m:]", "time()[5m:]": "time()[5m:]",
		"(((a)))": "a", "((1))": "1", `("x")`: `"x"`, "(a[5m])": "a[5m]", "+1": "1", "+-+a": "-a",
	} {
		wantText(t, s, want)
	}
	for _, row := range operatorRows {
		for _, op := range row {
			wantText(t, "a\n"+op+"\tb#", "a "+op+" b")
		}
	}
}

// P13.3: brackets where they must stand, and none where they must not: each kind of kid in each place.
func TestTextOfKids(t *testing.T) {
	kids := map[string]bool{ // whether an operator would fall apart without brackets
		"1": false, "Inf": false, "a": false, `a{b="1"}`: false, "a offset 1m": false, "a @ 1": false, `{b="1"}`: false, "sum(a)": false, "sum by (x) (a)": false, "abs(a)": false, "time()": false, "a + b": true, "1 + 1": true, "a == bool b": true, "a and b": true, "-a": true, "-1": true, "-(-a)": true, "vector(1)": false,
	}
	for s, composed := range kids {
		e := read(t, s)
		inOperators, inSubquery := s, "("+s+")"
		if composed {
			inOperators = "(" + s + ")"
		}
		if !composed && strings.HasSuffix(s, ")") {
			inSubquery = s
		}
		wantWritten(t, negate(e), "-"+inOperators)
		wantWritten(t, binary("*", e, metric("z")), inOperators+" * z")
		wantWritten(t, binary("-", metric("z"), e), "z - "+inOperators)
		wantWritten(t, subquery(60000, 0, e), inSubquery+"[1m:]")
		wantWritten(t, call("max_over_time", subquery(60000, 1000, e)), "max_over_time("+inSubquery+"[1m:1s])")
		if letter := modelType(e); letter == "v" {
			wantWritten(t, call("abs", e), "abs("+s+")")
			wantWritten(t, aggregate("sum", e), "sum("+s+")")
			wantWritten(t, call("clamp_min", e, number(1)), "clamp_min("+s+", 1)")
			wantWritten(t, aggregate("topk", number(1), e), "topk(1, "+s+")")
		} else {
			wantWritten(t, call("vector", e), "vector("+s+")")
			wantWritten(t, call("clamp_max", metric("a"), e), "clamp_max(a, "+s+")")
			wantWritten(t, with(aggregate("quantile", e, metric("a")), func(e *api.Expr) { e.Grouped = true }), "quantile without () ("+s+", a)")
		}
	}
	// Kids of one row are bracketed on either side.
	wantText(t, "a - (b - c)", "a - (b - c)")
	wantText(t, "a - b - c", "(a - b) - c")
	wantText(t, "(a * b) + c", "(a * b) + c")
	wantText(t, "a * b + c", "(a * b) + c")
}

// P13.3: the text of what is not right is empty.
func TestTextOfWrong(t *testing.T) {
	for _, e := range []api.Expr{{}, {Kind: 99}, number(-1), negate(text("x")), selector(), metric(""), over(-1, metric("a")), binary("+", metric("a")), binary("^", metric("a"), metric("b")), call("nosuch"), call("abs"), aggregate("sum"), with(number(1), func(e *api.Expr) { e.Range = 1 }), negate(number(-1)), subquery(0, 0, metric("a")), text("\xff")} {
		if got := parse.Text(e); got != "" {
			t.Errorf("Text of %s is %q", spelt(e), got)
		}
	}
}
