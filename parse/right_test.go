package parse_test

import (
	"math"
	"math/rand"
	"reflect"
	"slices"
	"strings"
	"testing"

	"vigil/api"
	"vigil/labels"
	"vigil/num"
	"vigil/parse"
)

func wantRight(t *testing.T, e api.Expr, want bool) {
	t.Helper()
	if got := parse.Right(e); got != want {
		t.Errorf("Right of %s is %v", spelt(e), got)
	}
	if got := parse.Text(e); (got != "") != want {
		t.Errorf("Text of %s is %q", spelt(e), got)
	}
}

// counted are the fields that count in an expression of each Kind.
var counted = map[int]string{
	api.ENumber:    "Kind Num",
	api.EString:    "Kind Text",
	api.ESelector:  "Kind Matchers Range Offset HasAt At",
	api.ESubquery:  "Kind Kids Range Step Offset HasAt At",
	api.ENegate:    "Kind Kids",
	api.EBinary:    "Kind Text Kids Bool Grouped On Names Card Include",
	api.EAggregate: "Kind Text Kids Grouped By Names",
	api.ECall:      "Kind Text Kids",
}

// oneOfEach is right expressions of each Kind.
func oneOfEach(t *testing.T) []api.Expr {
	var out []api.Expr
	for _, s := range []string{"1", "0", "inf", "NaN", `"x"`, `""`, "a", `{b!=""}[5m] @ 0`, "a offset 1m", "a[5m:]", "1[5m:1m] offset 1m @ 1", "-a", "-1", "a + b", "1 - 1", "1 == bool 1", "a == bool on (x) group_left (y) b", "a * ignoring () group_right b", "a and on () b", "sum(a)", "sum by () (a)", `count_values without (x) ("v", a)`, "time()", "abs(a)", `label_replace(a, "b", "c", "d", "e")`} {
		out = append(out, read(t, s))
	}
	return out
}

// P13.2: what does not count for a Kind is zero; nil and empty lists are one.
func TestFieldsThatDontCount(t *testing.T) {
	some := map[string]any{"Num": 1.0, "Text": "x", "Matchers": []api.Matcher{{Kind: api.Equal, Name: "a", Value: "b"}}, "Range": 1, "Step": 1, "Offset": 1, "HasAt": true, "At": 1, "Bool": true, "On": true, "By": true, "Grouped": true, "Names": []string{"x"}, "Card": 1, "Include": []string{"x"}, "Kids": []api.Expr{metric("a")}}
	for _, e := range oneOfEach(t) {
		tried := 0
		for i := range reflect.TypeOf(e).NumField() {
			name := reflect.TypeOf(e).Field(i).Name
			if has(counted[e.Kind], name) {
				continue
			}
			x := e
			reflect.ValueOf(&x).Elem().Field(i).Set(reflect.ValueOf(some[name]))
			wantRight(t, x, false)
			wantRight(t, negate(x), false)
			wantRight(t, call("vector", x), false)
			tried++
		}
		if want := reflect.TypeOf(e).NumField() - len(strings.Fields(counted[e.Kind])); tried != want {
			t.Error(tried, want)
		}
		if e.Kind != api.ENumber {
			for _, v := range []float64{math.Copysign(0, -1), math.NaN(), math.Inf(-1), 5e-324} {
				wantRight(t, with(e, func(e *api.Expr) { e.Num = v }), false)
			}
		}
		wantRight(t, with(e, func(e *api.Expr) {
			e.Matchers, e.Names, e.Include, e.Kids = emptied(e.Matchers), emptied(e.Names), emptied(e.Include), emptied(e.Kids)
		}), true)
	}
}

// emptied is l, but empty in the place of nil.
func emptied[T any](l []T) []T { return append([]T{}, l...) }

// P13.2: each field that counts, at its edges and beyond.
func TestFieldsThatCount(t *testing.T) {
	change := func(s string, want bool, change func(e *api.Expr)) {
		t.Helper()
		wantRight(t, with(read(t, s), change), want)
	}
	least, most := math.MinInt, math.MaxInt
	for n, want := range map[int]bool{least: false, -1: false, 0: true, 1: true, api.MaxTime: true, api.MaxTime + 1: false, most: false} {
		change("a", want, func(e *api.Expr) { e.Range = n })
		change(`{a="b"}[5m] offset 1m`, want, func(e *api.Expr) { e.Range = n })
		change("a[5m:]", want && n > 0, func(e *api.Expr) { e.Range = n })
		change("a[5m:]", want, func(e *api.Expr) { e.Step = n })
		change("a[5m:1m]", want, func(e *api.Expr) { e.Step = n })
	}
	for n, want := range map[int]bool{least: false, -api.MaxTime - 1: false, -api.MaxTime: true, -1: true, 0: true, 1: true, api.MaxTime: true, api.MaxTime + 1: false, most: false} {
		for _, s := range []string{"a", "a[5m] @ 1", "a[5m:]", "a[5m:] offset 1m"} {
			change(s, want, func(e *api.Expr) { e.Offset = n })
		}
	}
	for n, want := range map[int]bool{least: false, -100000000000001: false, -100000000000000: true, -1: true, 0: true, 1: true, 100000000000000: true, 100000000000001: false, most: false} {
		for _, s := range []string{"a", "a[5m] offset 1m", "a[5m:]", "a[5m:] @ 1"} {
			change(s, want, func(e *api.Expr) { e.HasAt, e.At = true, n })
			change(s, n == 0, func(e *api.Expr) { e.HasAt, e.At = false, n })
		}
	}
	for v, want := range map[float64]bool{0: true, 5e-324: true, 1: true, 0.1: true, math.MaxFloat64: true, math.Inf(1): true, math.Copysign(5e-324, -1): false, -1: false, math.Inf(-1): false} {
		change("1", want, func(e *api.Expr) { e.Num = v })
	}
	for bits, want := range map[uint64]bool{1 << 63: false, 0x7ff8000000000001: true, 0x7ff8000000000000: false, 0x7ff0000000000001: false, api.StaleBits: false, 0xfff8000000000001: false, 0x7fffffffffffffff: false, 0x7ff0000000000000: true} {
		change("1", want, func(e *api.Expr) { e.Num = math.Float64frombits(bits) })
		wantRight(t, negate(number(math.Float64frombits(bits))), want)
	}
	for _, s := range []string{"", "x", "\x00", "é", "\n\"\\`", "\u2028", strings.Repeat("x", 5000)} {
		change(`"x"`, true, func(e *api.Expr) { e.Text = s })
	}
	for _, s := range []string{"\xff", "a\xc3", "\xed\xa0\x80"} {
		change(`"x"`, false, func(e *api.Expr) { e.Text = s })
		change(`a`, false, func(e *api.Expr) { e.Matchers[0].Value = s })
		change(`a{b!="c"}`, false, func(e *api.Expr) { e.Matchers[1].Value = s })
	}
}

// P13.2: matchers.
func TestRightMatchers(t *testing.T) {
	name := api.Matcher{Kind: api.Equal, Name: "__name__", Value: "a"}
	for kind := -1; kind < 7; kind++ {
		wantRight(t, selector(name, api.Matcher{Kind: kind, Name: "b", Value: "c"}), 1 <= kind && kind <= 4)
	}
	for _, x := range []string{"", "0", "a:b", "a b", "é", "a\n", strings.Repeat("x", api.MaxLabel+1)} {
		wantRight(t, selector(name, api.Matcher{Kind: api.Equal, Name: x, Value: "c"}), false)
		wantRight(t, selector(api.Matcher{Kind: api.Equal, Name: x, Value: "c"}, name), false)
	}
	for _, x := range []string{"by", "inf", "NaN", "_", strings.Repeat("x", api.MaxLabel)} {
		wantRight(t, selector(api.Matcher{Kind: api.Equal, Name: x, Value: "c"}), true)
	}
	for _, x := range []string{"a", "sum", "a b", "é", "0", ":", strings.Repeat("x", 3000)} {
		wantRight(t, metric(x), true)
	}
	wantRight(t, selector(), false)
	wantRight(t, metric(""), false)
	wantRight(t, metric("a", name), false)
	wantRight(t, metric("", name), false)
	wantRight(t, metric("", api.Matcher{Kind: api.Equal, Name: "b", Value: "c"}), true)
	wantRight(t, metric("a", api.Matcher{Kind: api.Match, Name: "b", Value: "("}), false)
	wantRight(t, metric("a", api.Matcher{Kind: api.Equal, Name: "b", Value: "("}), true)
	wantRight(t, selector(api.Matcher{Kind: api.NotMatch, Name: "b", Value: "c"}), false)
	wantRight(t, selector(api.Matcher{Kind: api.NotMatch, Name: "b", Value: ".*"}), true)
	wantRight(t, metric("a", slices.Repeat([]api.Matcher{{Kind: api.NotEqual, Name: "b", Value: "c"}}, 1000)...), true)
}

// P13.2: what is said of vectors, and of aggregations.
func TestRightNames(t *testing.T) {
	change := func(s string, want bool, change func(e *api.Expr)) {
		t.Helper()
		wantRight(t, with(read(t, s), change), want)
	}
	for name, want := range map[string]bool{"x": true, "by": true, "inf": true, "__name__": true, strings.Repeat("x", api.MaxLabel): true, "": false, "0": false, "a:b": false, "x, y": false, "x)": false, strings.Repeat("x", api.MaxLabel+1): false, "\xff": false} {
		change("a + on (z) b", want, func(e *api.Expr) { e.Names = []string{"z", name} })
		change("a + ignoring (z) b", want, func(e *api.Expr) { e.Names = []string{name, name} })
		change("a + group_left b", want, func(e *api.Expr) { e.Include = []string{name} })
		change("a + on (z) group_right b", want, func(e *api.Expr) { e.Include = []string{"y", name, name} })
		change("sum by (z) (a)", want, func(e *api.Expr) { e.Names = []string{name} })
		change("sum without (z) (a)", want, func(e *api.Expr) { e.Names = []string{"z", name, "y"} })
	}
	change("a + b", false, func(e *api.Expr) { e.On = true })
	change("a + b", false, func(e *api.Expr) { e.Names = []string{"x"} })
	change("a + b", true, func(e *api.Expr) { e.Grouped = true })
	change("a + b", true, func(e *api.Expr) { e.Grouped, e.On = true, true })
	change("a + b", false, func(e *api.Expr) { e.Include = []string{"x"} })
	change("a + group_left (x) b", false, func(e *api.Expr) { e.Card = api.OneToOne })
	change("a + on (x) b", false, func(e *api.Expr) { e.Grouped = false })
	change("a + on (x) b", false, func(e *api.Expr) { e.Grouped, e.On = false, false })
	change("a + on () b", true, func(e *api.Expr) { e.Grouped, e.On = false, false })
	change("sum(a)", false, func(e *api.Expr) { e.By = true })
	change("sum(a)", false, func(e *api.Expr) { e.Names = []string{"x"} })
	change("sum(a)", true, func(e *api.Expr) { e.Grouped = true })
	change("sum by () (a)", false, func(e *api.Expr) { e.Grouped = false })
	change("sum without (x) (a)", false, func(e *api.Expr) { e.Grouped = false })
	for card, want := range map[int]bool{-1: false, api.OneToOne: true, api.GroupLeft: true, api.GroupRight: true, 3: false, math.MaxInt: false, math.MinInt: false} {
		change("a + b", want, func(e *api.Expr) { e.Card = card })
		change("a == bool on (x) b", want, func(e *api.Expr) { e.Card = card })
		change("1 + a", card == 0, func(e *api.Expr) { e.Card = card })
		for _, op := range []string{"and", "or", "unless"} {
			change("a "+op+" b", card == 0, func(e *api.Expr) { e.Card = card })
			change("a "+op+" on (x) b", card == 0, func(e *api.Expr) { e.Card = card })
		}
	}
	change("a * on (x) group_left (y) b", false, func(e *api.Expr) { e.Include = []string{"y", "x"} })
	change("a * ignoring (x) group_left (y) b", true, func(e *api.Expr) { e.Include = []string{"y", "x"} })
	for _, op := range []string{"+", "and", "or", "*"} {
		change("a == b", true, func(e *api.Expr) { e.Text = op })
		change("a == bool b", false, func(e *api.Expr) { e.Text = op })
	}
}

// P13.2: an expression that is too deep is none that Parse answers, nor is one with a fault within; how long its text is does not count.
func TestRightOfLarge(t *testing.T) {
	e := metric("a")
	for i := range 70 {
		wantRight(t, e, i < api.MaxDepth)
		e = negate(e)
	}
	wide := call("label_join", append([]api.Expr{metric("a")}, slices.Repeat([]api.Expr{text("b")}, 5000)...)...)
	wantRight(t, wide, true)
	wantRefused(t, parse.Text(wide), 0, api.ErrLarge)
	wide.Kids[4000].Text = "\xff"
	wantRight(t, wide, false)
	for _, wrong := range []api.Expr{number(-1), metric(""), over(-1, metric("a")), with(metric("a"), func(e *api.Expr) { e.Step = 1 })} {
		wantRight(t, binary("+", metric("a"), wrong), false)
		wantRight(t, aggregate("sum", binary("or", metric("a"), negate(wrong))), false)
	}
}

// plain writes any expression as it stands, with brackets around everything, as far as it can.
func plain(e api.Expr) string {
	var kids []string
	for _, kid := range e.Kids {
		kids = append(kids, plain(kid))
	}
	kid := func(i int) string {
		if i < len(kids) {
			return "(" + kids[i] + ")"
		}
		return ""
	}
	list := func(l []string) string { return "(" + strings.Join(l, ",") + ")" }
	moved := ""
	if e.HasAt {
		moved += "@" + num.Seconds(e.At)
	}
	if e.Offset != 0 {
		moved += " offset " + num.DurationText(e.Offset)
	}
	switch e.Kind {
	case api.ENumber:
		return strings.TrimPrefix(num.Text(e.Num), "+")
	case api.EString:
		return plainString(e.Text)
	case api.ESelector:
		return plainSelector(e.Matchers) + map[bool]string{true: "[" + num.DurationText(e.Range) + "]"}[e.Range != 0] + moved
	case api.ESubquery:
		return kid(0) + "[" + num.DurationText(e.Range) + ":" + map[bool]string{true: num.DurationText(e.Step)}[e.Step != 0] + "]" + moved
	case api.ENegate:
		return "-" + kid(0)
	case api.EBinary:
		s := " " + e.Text + map[bool]string{true: " bool "}[e.Bool]
		if e.Grouped {
			s += map[bool]string{true: " on ", false: " ignoring "}[e.On] + list(e.Names)
		}
		if e.Card == api.GroupLeft || e.Card == api.GroupRight {
			s += []string{"", " group_left ", " group_right "}[e.Card] + list(e.Include)
		}
		return kid(0) + s + kid(1)
	case api.EAggregate:
		if e.Grouped {
			return e.Text + map[bool]string{true: " by ", false: " without "}[e.By] + list(e.Names) + list(kids)
		}
		return e.Text + list(kids)
	case api.ECall:
		return e.Text + list(kids)
	}
	return "$"
}

func plainString(s string) string {
	return `"` + strings.NewReplacer(`\`, `\\`, `"`, `\"`, "\n", `\n`).Replace(s) + `"`
}

func plainSelector(l []api.Matcher) string {
	out, rest := "", l
	if len(l) > 0 && l[0].Kind == api.Equal && l[0].Name == "__name__" && labels.RightMetric(l[0].Value) && !reservedForm.MatchString(l[0].Value) {
		out, rest = l[0].Value, l[1:]
	}
	out += "{"
	for _, m := range rest {
		sign := "?"
		if 1 <= m.Kind && m.Kind <= 4 {
			sign = []string{"=", "!=", "=~", "!~"}[m.Kind-1]
		}
		out += m.Name + sign + plainString(m.Value) + ","
	}
	return out + "}"
}

// P13.2: Right is whether Parse answers the expression: of trees with one field changed at random, held against what Parse reads of them.
func TestRightIsRead(t *testing.T) {
	g := grower{rand.New(rand.NewSource(6))}
	times := map[bool]int{}
	for range 40000 {
		e := g.grow(g.of("v", "v", "s", "t", "m"), g.Intn(4))
		for range g.Intn(3) {
			g.bend(&e)
		}
		s := plain(e)
		if len(s) > api.MaxQuery {
			continue
		}
		got, _, why := parse.Parse(s)
		want := why == api.OK && spelt(got) == spelt(e)
		if right := parse.Right(e); right != want {
			t.Fatalf("Right of %s is %v; %q is read as %s (%d)", spelt(e), right, s, spelt(got), why)
		}
		if times[want]++; want {
			checkRead(t, s, e)
		} else if form := parse.Text(e); form != "" {
			t.Fatalf("Text of %s is %q", spelt(e), form)
		}
	}
	if times[true] < 2000 || times[false] < 2000 {
		t.Error(times)
	}
}

// bend changes one field of something within e.
func (g grower) bend(e *api.Expr) {
	for len(e.Kids) > 0 && g.Intn(3) > 0 {
		e = &e.Kids[g.Intn(len(e.Kids))]
	}
	field := reflect.ValueOf(e).Elem().Field(g.Intn(reflect.TypeOf(*e).NumField()))
	switch x := field.Addr().Interface().(type) {
	case *int:
		*x = []int{-1, 0, 1, 2, 3, 60000, -60000, api.MaxTime, api.MaxTime + 1, -api.MaxTime, 100000000000001, 1 + g.Intn(8)}[g.Intn(12)]
	case *bool:
		*x = !*x
	case *float64:
		*x = []float64{0, math.Copysign(0, -1), 1, -1, math.Inf(-1), math.Inf(1), math.NaN(), math.Float64frombits(0x7ff8000000000001), math.Float64frombits(api.StaleBits)}[g.Intn(9)]
	case *string:
		*x = g.of("", "x", "sum", "topk", "abs", "rate", "+", "and", "==", "\xff", "+ -", "a) + (b", "== bool", "label_join")
	case *[]string:
		*x = [][]string{nil, {}, {"x"}, {"x", "by"}, {"0"}, {"x, y"}, {""}, {"a", "b", "c", "d", "e"}}[g.Intn(8)]
	case *[]api.Matcher:
		m := api.Matcher{Kind: g.Intn(6), Name: g.of("a", "__name__", "", "a:b", "0"), Value: g.of("", "a", "(", "\xff", ".*")}
		*x = append(*x, m)
		if g.seldom(3) {
			*x = []api.Matcher{m}
		}
	case *[]api.Expr:
		*x = [][]api.Expr{nil, {}, {metric("a")}, {metric("a"), metric("b")}, {number(1)}, append(*x, text("x"))}[g.Intn(6)]
	}
}
