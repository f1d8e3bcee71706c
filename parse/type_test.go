package parse_test

import (
	"math/rand"
	"strings"
	"testing"

	"vigil/api"
	"vigil/parse"
)

// samples are expressions of each type, by its letter.
var samples = map[string]api.Expr{"s": number(1), "t": text("x"), "v": metric("a"), "m": over(60000, metric("a"))}

// typeLetters are those of the types, from TScalar on.
const typeLetters = "stvm"

// wantType holds an expression's type against its letter; empty: it has none.
func wantType(t *testing.T, e api.Expr, letter string) {
	t.Helper()
	got, why := parse.Type(e)
	want, wantWhy := 0, api.ErrType
	if letter != "" {
		want, wantWhy = api.TScalar+strings.Index(typeLetters, letter), api.OK
	}
	if got != want || why != wantWhy {
		t.Errorf("Type of %s is %d, %d, not %d, %d", spelt(e), got, why, want, wantWhy)
	}
	if letter == "" && (parse.Right(e) || parse.Text(e) != "") {
		t.Errorf("%s has no type, and is right", spelt(e))
	}
}

// rowsOfKids are all rows of up to so many letters of types.
func rowsOfKids(most int) []string {
	out := []string{""}
	for from := 0; most > 0; most-- {
		upTo := len(out)
		for _, row := range out[from:upTo] {
			for _, letter := range typeLetters {
				out = append(out, row+string(letter))
			}
		}
		from = upTo
	}
	return out
}

func kidsOf(row string) []api.Expr {
	var out []api.Expr
	for i := range row {
		out = append(out, samples[row[i:i+1]])
	}
	return out
}

// P13.2: of each Kind, each aggregation, each operator and each function the types for kids of all types, too few and too many.
func TestTypesOfKids(t *testing.T) {
	for _, row := range rowsOfKids(3) {
		kids := kidsOf(row)
		for kind := range 10 {
			wantAsModel(t, api.Expr{Kind: kind, Kids: kids})
		}
		wantAsModel(t, api.Expr{Kind: api.ESelector, Range: 1, Kids: kids})
		for _, name := range strings.Fields("sum avg min max count group stddev stdvar topk bottomk quantile count_values nosuch Sum rate") {
			wantAsModel(t, aggregate(name, kids...))
		}
		for _, row := range operatorRows {
			for _, op := range row {
				for i := range 16 {
					wantAsModel(t, with(binary(op, kids...), func(e *api.Expr) {
						e.Bool, e.Grouped, e.On, e.Card = i&1 > 0, i&2 > 0, i&6 == 6, i>>3
					}))
				}
			}
		}
		for _, op := range []string{"", "=", "=~", "^", "atan2", "+ ", "OR", "bool", "a"} {
			wantType(t, binary(op, kids...), "")
		}
	}
}

// wantAsModel holds an expression's type against the model.
func wantAsModel(t *testing.T, e api.Expr) {
	t.Helper()
	wantType(t, e, modelType(e))
}

// P13.2: of each function the types for arguments of all types, too few and too many.
func TestTypesOfCalls(t *testing.T) {
	rows := append(rowsOfKids(4), "vtttt", "vttttt", "vttttttt", "vtttv", "vtttts", "vtttvt", "ttttt", "svttt", "vstttt", "vvvvv", "vssss")
	for _, forms := range callForms {
		for _, name := range strings.Fields(forms[0]) {
			for _, row := range rows {
				wantAsModel(t, call(name, kidsOf(row)...))
			}
		}
	}
	for _, row := range []string{"", "v", "m", "s"} {
		for _, name := range []string{"", "nosuch", "sum", "Rate", "rate(", "avg", "inf"} {
			wantType(t, call(name, kidsOf(row)...), "")
		}
	}
}

// P13.2: the rules of the types, as the chapter tells them.
func TestTypeRules(t *testing.T) {
	for s, letter := range map[string]string{
		"1": "s", "inf": "s", `"x"`: "t", "a": "v", "{a=\"b\"}": "v", "a offset 1m": "v", "a[1m]": "m", "a[1m] @ 1": "m", "a[1m:]": "m", "1[1m:1m]": "m", "-1": "s", "-a": "v", "--1": "s",
		"1 + 1": "s", "1 + a": "v", "a + 1": "v", "a + a": "v", "1 == bool 1": "s", "a == 1": "v", "1 < a": "v", "a != b": "v", "a == bool 1": "v", "a > bool b": "v", "a and b": "v", "a or b": "v", "a unless b": "v", "a and on (x) b": "v",
		"a + on (x) b": "v", "a == ignoring (x) group_left (x) b": "v", "a * on (x) group_right (y) b": "v", "a * group_left (x) b": "v", "a * on (x, y) group_left () b": "v",
		"sum(a)": "v", "topk(1, a)": "v", "topk(scalar(a), a)": "v", "quantile(1 / 2, a)": "v", `count_values("x", a)`: "v", `count_values("__name__", a)`: "v", "time()": "s", "scalar(a)": "s", "vector(1)": "v", "rate(a[1m])": "v", "rate(a[1m:])": "v", "hour()": "v", "hour(a)": "v", "round(a)": "v", "round(a, 2)": "v",
	} {
		wantType(t, read(t, s), letter)
	}
	for _, s := range []string{
		`-"x"`, "-a[1m]", `"x"[1m:]`, "a[1m][1m:]", "a[1m:][1m:]", `1 + "x"`, `"x" + "x"`, "a[1m] + 1", "1 + a[1m]", "a + a[1m]",
		"1 == 1", "1 < 2", "time() >= 0", "1 and 1", "a and 1", "1 or a", "a unless 1", `a or "x"`, "a[1m] or a",
		"1 + on (x) 1", "a + on (x) 1", "1 + ignoring () a", "a == on () 1", "a + group_left 1", "1 * group_right (x) a", "1 + group_left 1", "a and on (x) 1",
		"a * on (x) group_left (x) b", "a * on (x, y) group_right (z, y) b", "a == bool on (x) group_left (x) b",
		"sum()", "sum(1)", `sum("x")`, "sum(a[1m])", "sum(a, b)", "sum(1, a)", "topk(a)", "topk(a, 1)", "topk(a, a)", `topk("x", a)`, "topk(1, 1)", "topk(1, a, a)", "topk()", "count_values(a)", "count_values(1, a)", `count_values("x")`, `count_values("x", 1)`, `count_values("0", a)`, `count_values("", a)`, `count_values("a:b", a)`, `count_values("é", a)`, `count_values("` + strings.Repeat("x", api.MaxLabel+1) + `", a)`,
		"rate(a)", "rate(1)", "rate()", "rate(a[1m], 1)", "abs(1)", "abs(a[1m])", "scalar(1)", "vector(a)", "time(1)", "hour(1)", "hour(a, a)", "round()", "round(a, a)", "round(a, 1, 1)", "clamp(a, 1)", "clamp(a, 1, 1, 1)", "quantile_over_time(a[1m], 1)", "histogram_quantile(a, 1)", `label_join(a, "b", "c")`, `label_join(a, "b", "c", "d", 1)`, `label_replace(a, "b", "c", "d")`, `label_replace(a, "b", "c", "d", "e", "f")`, "sort(1)", "absent(a[1m])", "absent_over_time(a)",
	} {
		wantRefused(t, s, 0, api.ErrType)
		wantRefused(t, "("+s+")", 0, api.ErrType)
		wantRefused(t, "abs("+s+")", 0, api.ErrType)
		wantRefused(t, "-("+s+") + a", 0, api.ErrType)
	}
	read(t, `count_values("`+strings.Repeat("x", api.MaxLabel)+`", a)`)
	read(t, `label_join(a, "b", "c"`+strings.Repeat(`, "d"`, 500)+`)`)
}

// P13.2: what is of no Kind, on top or within.
func TestNoKinds(t *testing.T) {
	for _, kind := range []int{0, -1, 9, 99, -1 << 63, 1<<63 - 1} {
		none := api.Expr{Kind: kind}
		for _, e := range []api.Expr{none, negate(none), binary("+", metric("a"), none), binary("+", none, metric("a")), aggregate("sum", none), call("abs", none), subquery(1, 0, none), call("time", none), with(metric("a"), func(e *api.Expr) { e.Kids = []api.Expr{none} }), negate(negate(negate(none)))} {
			wantType(t, e, "")
		}
		wantType(t, api.Expr{Kind: kind, Kids: []api.Expr{metric("a")}}, "")
	}
}

// P13.2: fields that count nothing for the type do not change it.
func TestTypeOfStrange(t *testing.T) {
	wantType(t, number(-1), "s")
	wantType(t, with(number(1), func(e *api.Expr) { e.Range, e.Text, e.Bool, e.Card = 5, "x", true, 2 }), "s")
	wantType(t, text("\xff"), "t")
	wantType(t, selector(), "v")
	wantType(t, selector(api.Matcher{Kind: 9, Name: "0"}), "v")
	wantType(t, with(metric("a"), func(e *api.Expr) { e.Range = -1 }), "m")
	wantType(t, subquery(0, -1, metric("a")), "m")
	wantType(t, with(aggregate("sum", metric("a")), func(e *api.Expr) { e.By, e.Names = true, []string{"0"} }), "v")
	wantType(t, with(binary("+", metric("a"), metric("b")), func(e *api.Expr) { e.Include = []string{"x"} }), "v")
	wantType(t, with(binary("+", metric("a"), metric("b")), func(e *api.Expr) { e.Grouped, e.On, e.Names = true, true, []string{"", "x"} }), "v")
}

// P13.2: trees of anything at random, and Depth of them.
func TestRandomTypes(t *testing.T) {
	g := grower{rand.New(rand.NewSource(5))}
	typed := 0
	for range 20000 {
		e := g.grow(g.of("v", "s", "m"), g.Intn(5))
		for g.seldom(2) {
			g.spoil(&e)
		}
		wantAsModel(t, e)
		if d := parse.Depth(e); d != modelDepth(e) {
			t.Fatalf("Depth of %s is %d", spelt(e), d)
		}
		if modelType(e) != "" {
			typed++
		}
	}
	if typed < 2000 || typed > 19000 {
		t.Error(typed)
	}
}

// spoil changes something within e that its type may hang on.
func (g grower) spoil(e *api.Expr) {
	for len(e.Kids) > 0 && g.Intn(3) > 0 {
		e = &e.Kids[g.Intn(len(e.Kids))]
	}
	switch g.Intn(8) {
	case 0:
		e.Kind = g.Intn(10)
	case 1:
		e.Text = g.of("sum", "topk", "count_values", "abs", "rate", "+", "==", "or", "x", "")
	case 2:
		e.Kids = append(e.Kids, samples[g.of("s", "t", "v", "m")])
	case 3:
		e.Kids = nil
	case 4:
		e.Bool = !e.Bool
	case 5:
		e.Grouped, e.On = !e.Grouped, true
	case 6:
		e.Card = g.Intn(3)
	case 7:
		e.Range = g.Intn(2)
	}
}
