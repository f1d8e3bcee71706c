package parse_test

import (
	"strings"
	"testing"

	"vigil/api"
)

// rows of operators, from the loosest on.
var operatorRows = [][]string{{"or"}, {"and", "unless"}, {"==", "!=", "<", "<=", ">", ">="}, {"+", "-"}, {"*", "/", "%"}}

// Operators of each row in one another: a tighter one first, those of one row from the left.
func TestRowsOfOperators(t *testing.T) {
	a, b, c := metric("a"), metric("b"), metric("c")
	for i, first := range operatorRows {
		for j, second := range operatorRows {
			for _, x := range first {
				for _, y := range second {
					left := binary(y, binary(x, a, b), c)
					right := binary(x, a, binary(y, b, c))
					want := left
					if j > i {
						want = right
					}
					wantTree(t, "a "+x+" b "+y+" c", want)
					wantTree(t, "(a "+x+" b) "+y+" c", left)
					wantTree(t, "a "+x+" (b "+y+" c)", right)
					wantTree(t, "-a "+x+" +b "+y+" -c", with(want, func(e *api.Expr) { negateEnds(e, j > i) }))
				}
			}
		}
	}
}

// negateEnds puts a sign to the first and to the last operand of three.
func negateEnds(e *api.Expr, rightFirst bool) {
	if rightFirst {
		e.Kids = []api.Expr{negate(metric("a")), binary(e.Kids[1].Text, metric("b"), negate(metric("c")))}
		return
	}
	e.Kids = []api.Expr{binary(e.Kids[0].Text, negate(metric("a")), metric("b")), negate(metric("c"))}
}

// All rows in one query, once from the loosest on and once from the tightest.
func TestAllRows(t *testing.T) {
	wantText(t, "a or b and c == d + e * f", "a or (b and (c == (d + (e * f))))")
	wantText(t, "a * b + c == d and e or f", "((((a * b) + c) == d) and e) or f")
	wantText(t, "a or b unless c or d", "(a or (b unless c)) or d")
	wantText(t, "a and b unless c and d", "((a and b) unless c) and d")
	wantText(t, "a < b > c <= d", "((a < b) > c) <= d")
	wantText(t, "a / b * c % d / e", "(((a / b) * c) % d) / e")
	wantText(t, "a - b + c * d - e", "((a - b) + (c * d)) - e")
	wantText(t, "-a * -b", "(-a) * (-b)")
	wantText(t, "- - a - - b", "(-(-a)) - (-b)")
	wantText(t, "-a offset 1m or b", "(-a offset 1m) or b")
}

// A sign stands ahead of all of a primary, with what stands behind it.
func TestSignsAhead(t *testing.T) {
	a := metric("a")
	moved := with(a, func(e *api.Expr) { e.Offset, e.HasAt, e.At = 60000, true, 1000 })
	wantTree(t, "-a", negate(a))
	wantTree(t, "+a", a)
	wantTree(t, "+ - + - + a", negate(negate(a)))
	wantTree(t, "-a offset 1m @ 1", negate(moved))
	wantTree(t, "+a offset 1m @ 1", moved)
	wantTree(t, "-a + b", binary("+", negate(a), metric("b")))
	wantTree(t, "-(a + b)", negate(binary("+", a, metric("b"))))
	wantTree(t, "a * -b offset 1m", binary("*", a, negate(with(metric("b"), func(e *api.Expr) { e.Offset = 60000 }))))
	wantTree(t, "-1", negate(number(1)))
	wantTree(t, "+1", number(1))
	wantTree(t, "+a[5m]", over(300000, a))
	wantTree(t, "+a[5m:]", subquery(300000, 0, a))
	wantTree(t, `+"x"`, text("x"))
	wantTree(t, "max_over_time(+a[5m])", call("max_over_time", over(300000, a)))
	wantAllRefused(t, []refusal{{`-a[5m]`, 0, api.ErrType}, {`-a[5m:]`, 0, api.ErrType}, {`-"x"`, 0, api.ErrType}, {`-(a[5m])`, 0, api.ErrType}})
	wantForm(t, "-§", "+§", "- +§", "+§*a", "-§)", "-§or", "a -§", "a - -§", "(-§)", "+ §bool a")
}

// operation is two vectors brought together.
func operation(op string, change func(e *api.Expr)) api.Expr {
	return with(binary(op, metric("a"), metric("b")), change)
}

// bool stands behind comparisons alone, ahead of on and ignoring.
func TestBool(t *testing.T) {
	for _, row := range operatorRows {
		for _, op := range row {
			if op != "!=" && !strings.ContainsAny(op, "=<>") {
				wantForm(t, "a "+op+" §bool b", "a "+op+" on (x) §bool b")
				continue
			}
			wantTree(t, "a "+op+" bool b", operation(op, func(e *api.Expr) { e.Bool = true }))
			wantTree(t, "a"+op+"bool(b)", operation(op, func(e *api.Expr) { e.Bool = true }))
			wantTree(t, "a "+op+" bool on (x) b", operation(op, func(e *api.Expr) { e.Bool, e.Grouped, e.On, e.Names = true, true, true, []string{"x"} }))
			wantTree(t, "a "+op+" bool group_left b", operation(op, func(e *api.Expr) { e.Bool, e.Card = true, api.GroupLeft }))
			wantForm(t, "a "+op+" bool§", "a "+op+" bool §bool b", "a "+op+" on (x) §bool b", "a "+op+" group_left §bool b", "a §bool "+op+" b")
		}
	}
	wantForm(t, "§bool", "a §bool b", "1 + (§bool)", "a == b §bool")
}

// nameLists are names as they are written and as they are read.
var nameLists = []struct {
	s    string
	list []string
}{
	{"()", nil}, {"( )", nil}, {"(x)", []string{"x"}}, {"(x,y)", []string{"x", "y"}}, {"( x , y , z )", []string{"x", "y", "z"}}, {"(x,x)", []string{"x", "x"}}, {"(_,__name__,A1)", []string{"_", "__name__", "A1"}}, {"(by,on,inf,sum)", []string{"by", "on", "inf", "sum"}}, {"(\n# )\nx#,\n)", []string{"x"}},
	{"(" + strings.Repeat("x", api.MaxLabel) + ")", []string{strings.Repeat("x", api.MaxLabel)}},
}

// wrongNames are names with the place of the fault in them.
var wrongNames = []string{"(§", "( §", "(§,)", "(§,x)", "(x§", "(x §y)", "(x,§)", "(x,§,y)", "(x,y,§)", "(x,§", "(§1)", "(§:)", "(§a:b)", "(x,§a:b)", "(§:a)", "(§\"x\")", "(x§=\"y\")", "(§(x))", "(x§{})", "(§{)", "(§-x)", "(x§+y)", "(x§(", "(x§;)", "(§é)"}

// on and ignoring with names, of each operator.
func TestMatching(t *testing.T) {
	for _, row := range operatorRows {
		for _, op := range row {
			for word, on := range map[string]bool{"on": true, "ignoring": false} {
				for _, l := range nameLists {
					want := operation(op, func(e *api.Expr) { e.Grouped, e.On, e.Names = true, on, l.list })
					wantTree(t, "a "+op+" "+word+" "+l.s+" b", want)
					wantTree(t, "a "+op+" "+word+l.s+"b", want)
					wantTree(t, "a "+op+" "+word+l.s+"(b)", want)
				}
				for _, names := range wrongNames {
					wantForm(t, "a "+op+" "+word+" "+names)
				}
				wantForm(t, "a "+op+" "+word+"§", "a "+op+" "+word+" §b", "a "+op+" "+word+" §{}", "a "+op+" "+word+" ()§", "a "+op+" "+word+" (x) §on (x) b", "a "+op+" "+word+" (x) §ignoring (x) b", "a "+op+" "+word+" (x) §by b")
			}
		}
	}
	wantForm(t, "a §on (x) b", "a §ignoring (x) b", "§on (x) a", "a + b §on (x)", "-§on (x) a")
}

// group_left and group_right, with names and without; a bracket behind them always begins names.
func TestGroups(t *testing.T) {
	for _, row := range operatorRows {
		for _, op := range row {
			for word, card := range map[string]int{"group_left": api.GroupLeft, "group_right": api.GroupRight} {
				if op == "or" || op == "and" || op == "unless" {
					wantForm(t, "a "+op+" §"+word+" b", "a "+op+" on (x) §"+word+" b", "a "+op+" ignoring () §"+word+" (y) b")
					continue
				}
				wantTree(t, "a "+op+" "+word+" b", operation(op, func(e *api.Expr) { e.Card = card }))
				wantTree(t, "a "+op+" ignoring (x) "+word+" b", operation(op, func(e *api.Expr) { e.Card, e.Grouped, e.Names = card, true, []string{"x"} }))
				for _, l := range nameLists {
					wantTree(t, "a "+op+" "+word+l.s+" b", operation(op, func(e *api.Expr) { e.Card, e.Include = card, l.list }))
					wantTree(t, "a "+op+" on(other) "+word+" "+l.s+"(b)", operation(op, func(e *api.Expr) {
						e.Card, e.Include, e.Grouped, e.On, e.Names = card, l.list, true, true, []string{"other"}
					}))
				}
				for _, names := range wrongNames {
					wantForm(t, "a "+op+" "+word+" "+names)
				}
				wantForm(t, "a "+op+" "+word+"§", "a "+op+" "+word+" (b)§", "a "+op+" "+word+" (b §+ c)", "a "+op+" "+word+" (x) §"+word+" b", "a "+op+" "+word+" §on (x) b", "a "+op+" "+word+" (x) §ignoring (x) b", "a "+op+" "+word+" §group_left b")
			}
		}
	}
	wantForm(t, "a * group_left (b)§", "a * group_left (b §+ c) d", "a * group_left (§(b))", "a * group_right (§-b)", "a * group_left (b§[5m])", "a §group_left b", "§group_right", "a * b §group_left (x)")
	wantTree(t, "a * group_left () (b)", operation("*", func(e *api.Expr) { e.Card = api.GroupLeft }))
	wantTree(t, "a * group_left -b", with(binary("*", metric("a"), negate(metric("b"))), func(e *api.Expr) { e.Card = api.GroupLeft }))
}

// Selectors: a word, a word and matchers, matchers.
func TestSelectors(t *testing.T) {
	b := api.Matcher{Kind: api.Equal, Name: "b", Value: "c"}
	d := api.Matcher{Kind: api.NotEqual, Name: "d", Value: "e"}
	wantTree(t, `a`, metric("a"))
	wantTree(t, `a{}`, metric("a"))
	wantTree(t, `a { }`, metric("a"))
	wantTree(t, `a{b="c"}`, metric("a", b))
	wantTree(t, `a{b="c",}`, metric("a", b))
	wantTree(t, `a{b="c",d!='e',}`, metric("a", b, d))
	wantTree(t, `a{b="c",d!='e',b="c"}`, metric("a", b, d, b))
	wantTree(t, `{b="c"}`, selector(b))
	wantTree(t, `{b="c",d!="e"}`, selector(b, d))
	wantTree(t, `{d!="e",b="c",}`, selector(d, b))
	wantTree(t, `{b="c"}[5m]`, over(300000, selector(b)))
	wantTree(t, `a{b="c"}[5m]`, over(300000, metric("a", b)))
	wantTree(t, `a[5m]`, over(300000, metric("a")))
	wantTree(t, `{__name__="a"}`, metric("a"))
	wantTree(t, `{__name__="a",b="c"}`, metric("a", b))
	long := strings.Repeat("x", api.MaxLabel)
	wantTree(t, `{`+long+`="c"}`, selector(api.Matcher{Kind: api.Equal, Name: long, Value: "c"}))
	wantForm(t,
		`{§`, `a{§`, `a{b§`, `a{b=§`, `a{b="c"§`, `a{b="c",§`, `a{§,}`, `a{§,b="c"}`, `a{b="c",§,}`, `a{b="c" §d="e"}`, `a{b§}`, `a{b§,}`, `a{b=§}`, `a{b=§c}`, `a{b=§1}`, `a{b=§,}`, `a{§1="c"}`, `a{§"b"}`, `a{§a:b="c"}`, `a{§:="c"}`, `a{§:b="c"}`,
		`a{§`+long+`x="c"}`, `a{b="c"}§{b="c"}`, `a{b="c"} §a`, `{b="c"}§(1)`, `a{b="c"§)`, `a{b="c"§]`, `a{b="c"§;`, `a{§(b="c")}`, `a{b="c"§+"d"}`, `{}§{}`, `a §a{}`, `a[5m]§{}`, `a[5m§`, `a[5m]§a`, `§}`, `a§}`, `(a{b="c"§)`, `a{b=§("c")}`,
	)
}

// Functions: a name and any number of expressions; aggregations: the same, and names ahead or behind.
func TestCalls(t *testing.T) {
	a, b := metric("a"), metric("b")
	wantTree(t, "time()", call("time"))
	wantTree(t, "time ( )", call("time"))
	wantTree(t, "abs(a)", call("abs", a))
	wantTree(t, "clamp(a, 1, +2)", call("clamp", a, number(1), number(2)))
	wantTree(t, "round((a), -1)", call("round", a, negate(number(1))))
	wantTree(t, `label_join(a + b, "x", "", "y", 'z')`, call("label_join", binary("+", a, b), text("x"), text(""), text("y"), text("z")))
	wantTree(t, "vector(scalar(vector(1)))", call("vector", call("scalar", call("vector", number(1)))))
	wantForm(t, "abs(§", "abs(a§", "abs(a,§)", "abs(a,§", "abs(§,)", "abs(§,a)", "abs(a,§,b)", "abs(a §b)", "abs(a§]", "abs(a§}", "abs(a)§(b)", "abs(a) §b", "abs(a)§{}", "abs(§by)", "abs(§bool a)", "time(§", "time()§)", "abs(a) §by (x)", "abs §by (x) (a)", "abs(§*)")
	wantAllRefused(t, []refusal{{"abs()", 0, api.ErrType}, {"abs(a, b)", 0, api.ErrType}, {"time(1)", 0, api.ErrType}})
}

func TestAggregations(t *testing.T) {
	a, k := metric("a"), number(3)
	heads := map[string]string{"topk": "3, ", "bottomk": "3, ", "quantile": "3, ", "count_values": `"v", `}
	for _, name := range strings.Fields("sum avg min max count group stddev stdvar topk bottomk quantile count_values") {
		kids := []api.Expr{a}
		switch {
		case name == "count_values":
			kids = []api.Expr{text("v"), a}
		case heads[name] != "":
			kids = []api.Expr{k, a}
		}
		arguments := "(" + heads[name] + "a)"
		wantTree(t, name+arguments, aggregate(name, kids...))
		for word, by := range map[string]bool{"by": true, "without": false} {
			for _, l := range nameLists {
				want := with(aggregate(name, kids...), func(e *api.Expr) { e.Grouped, e.By, e.Names = true, by, l.list })
				wantTree(t, name+" "+word+" "+l.s+" "+arguments, want)
				wantTree(t, name+" "+word+l.s+arguments, want)
				wantTree(t, name+arguments+word+l.s, want)
				wantTree(t, name+" "+arguments+" "+word+" "+l.s, want)
			}
			for _, names := range wrongNames {
				wantForm(t, name+" "+word+" "+names, name+arguments+word+names)
			}
			wantForm(t,
				name+" "+word+"§", name+" "+word+" §a", name+" "+word+" (x)§", name+" "+word+" (x) §a", name+" "+word+" (x) §by (x) (a)", name+" "+word+" (x) "+arguments+" §by (x)", name+" "+word+" () "+arguments+" §without ()", name+arguments+word+"§", name+arguments+word+" §a", name+arguments+word+" (x) §without (y)", name+arguments+word+" (x)§(a)",
			)
		}
		wantForm(t, name+"§", name+" §a", name+"(§", name+"(§,", name+"(a,§)", name+"(a§", name+arguments+"§(a)", name+arguments+" §a", name+" §on (x) (a)", name+arguments+"§{}", name+"§[5m]", name+arguments+"[5m:] §by (x)", "("+name+arguments+") §by (x)", name+arguments+" §offset 5m")
		wantRefused(t, name+"()", 0, api.ErrType)
	}
	wantText(t, "sum(a)by(x)+b", "sum by (x) (a) + b")
	wantText(t, "sum(a)by(x)[5m:]", "sum by (x) (a)[5m:]")
	wantForm(t, "§by (x) sum(a)", "a §by (x)", "1 §without (x)", "sum(a) + b §by (x)")
}

// What offset and @ belong to: the selector or subquery directly ahead, each at most once, in either order.
func TestOffsetAndAt(t *testing.T) {
	a := metric("a")
	moved := func(e api.Expr, offset int, at ...int) api.Expr {
		if e.Offset = offset; len(at) > 0 {
			e.HasAt, e.At = true, at[0]
		}
		return e
	}
	wantTree(t, "a offset 1m", moved(a, 60000))
	wantTree(t, "a @ 1", moved(a, 0, 1000))
	wantTree(t, "a @ 0", moved(a, 0, 0))
	wantTree(t, "a @ -0", moved(a, 0, 0))
	wantTree(t, "a offset 1m @ 1", moved(a, 60000, 1000))
	wantTree(t, "a @ 1 offset 1m", moved(a, 60000, 1000))
	wantTree(t, "a[5m] @ 1 offset 1m", moved(over(300000, a), 60000, 1000))
	wantTree(t, `{b="c"}[5m]offset-1m@-1`, moved(over(300000, selector(api.Matcher{Kind: api.Equal, Name: "b", Value: "c"})), -60000, -1000))
	wantTree(t, "a[5m:] offset 1m", moved(subquery(300000, 0, a), 60000))
	wantTree(t, "(1)[5m:1m] @ 1 offset 1m", moved(subquery(300000, 60000, number(1)), 60000, 1000))
	wantTree(t, "a offset 1m @ 1 [5m:] @ 2 offset 2m", moved(subquery(300000, 0, moved(a, 60000, 1000)), 120000, 2000))
	wantTree(t, "a offset 1m [5m:] offset 2m", moved(subquery(300000, 0, moved(a, 60000)), 120000))
	wantTree(t, "a offset 0 [5m:] @ 2", moved(subquery(300000, 0, a), 0, 2000))
	wantTree(t, "(a offset 1m)[5m:] offset 2m", moved(subquery(300000, 0, moved(a, 60000)), 120000))
	wantTree(t, "((a offset 1m)) + (a @ 1)", binary("+", moved(a, 60000), moved(a, 0, 1000)))
	wantTree(t, "sum(a offset 1m)[5m:] offset 2m", moved(subquery(300000, 0, aggregate("sum", moved(a, 60000))), 120000))
	wantForm(t,
		"a offset 1m §offset 2m", "a offset 0 §offset 0", "a @ 1 §@ 1", "a @ 0 §@ 0", "a offset 1m @ 1 §offset 1m", "a @ 1 offset 1m §@ 1", "a[5m] offset 1m §offset 1m", "a[5m:] @ 1 offset 1m §@ 1", "a[5m:] offset 1m @ 1 §offset 1m", "a @ 1 [5m:] @ 1 §@ 1", "a offset 1m [5m:] offset 0 §offset 1m",
		"(a) §offset 1m", "(a) §@ 1", "(a[5m]) §offset 1m", "(a[5m:]) §@ 1", "1 §offset 1m", "1 §@ 1", "\"x\" §offset 1m", "abs(a) §offset 1m", "abs(a) §@ 1", "sum(a) §offset 1m", "sum(a) by (x) §@ 1", "(a @ 1) §offset 1m", "((a)) §@ 1", "-(a) §offset 1m", "a + (b) §offset 1m", "inf §@ 1",
		"a §1m", "§offset 1m", "§@ 1", "a offset§", "a @§", "a + §offset 1m", "a + §@ 1", "a offset §@ 1", "a @ §offset 1m", "a offset 1m §1m", "a @ 1 §1", "a offset 1m§{}", "a @ 1§{}", "a offset 1m §on", "a @ 1 §by (x)", "a offset -§", "a offset §+1m", "a @ §+1",
	)
}

// Ranges and subqueries: a range stands directly behind a selector, once.
func TestWindows(t *testing.T) {
	a := metric("a")
	wantTree(t, "a[5m]", over(300000, a))
	wantTree(t, "a[5m:]", subquery(300000, 0, a))
	wantTree(t, "a[5m:1m]", subquery(300000, 60000, a))
	wantTree(t, "(a)[5m:1m]", subquery(300000, 60000, a))
	wantTree(t, "1[5m:1m]", subquery(300000, 60000, number(1)))
	wantTree(t, "NaN[5m:]", subquery(300000, 0, read(t, "nan")))
	wantTree(t, "a{}[5m:]", subquery(300000, 0, a))
	wantTree(t, "abs(a)[5m:]", subquery(300000, 0, call("abs", a)))
	wantTree(t, "(a + b)[5m:]", subquery(300000, 0, binary("+", a, metric("b"))))
	wantTree(t, "(-a)[5m:]", subquery(300000, 0, negate(a)))
	wantTree(t, "a @ 1 [5m:]", subquery(300000, 0, with(a, func(e *api.Expr) { e.HasAt, e.At = true, 1000 })))
	wantTree(t, "max_over_time(rate(a[5m])[1h:5m])[1d:]", subquery(86400000, 0, call("max_over_time", subquery(3600000, 300000, call("rate", over(300000, a))))))
	wantForm(t, "(a)[5m§]", "1[5m§]", "abs(a)[5m§]", "sum(a)[5m§]", "a offset 1m [5m§]", "a @ 1 [5m§]", "a[5m][5m§]", "a[5m:][5m§]", "a[5m] offset 1m [5m§]", "(a[5m])[5m§]", "-(a)[5m§]", "\"x\"[5m§]", "§[5m]", "a + §[5m]", "a[5m]§]", "a[5m:]§]", "a[§(5m)]", "a§]", "a[5m§,5m]")
	wantAllRefused(t, []refusal{{"a[5m][5m:]", 0, api.ErrType}, {"a[5m:][5m:]", 0, api.ErrType}, {`"x"[5m:]`, 0, api.ErrType}, {"(a[5m])[5m:1m]", 0, api.ErrType}, {"a[5m:1m] + 1", 0, api.ErrType}})
}

// Brackets are no part of what is read.
func TestBrackets(t *testing.T) {
	for _, s := range []string{"a", "1", `"x"`, "a[5m]", "a[5m:]", "-a", "a + b", "sum(a)", "abs(a)", "a offset 1m"} {
		wantTree(t, "("+s+")", read(t, s))
		wantTree(t, "( ( (\n"+s+" ) #)\n))", read(t, s))
	}
	wantForm(t, "(§", "(§)", "(a§", "(a §b)", "(a§,b)", "(a§]", "(a§}", "(a)§)", "(a)§(b)", "(a) §b", "(a)§{}", "((a)§", "§)", "a§)", "(§,", "((a + b) * c§")
}

// An expression ends where its tokens do.
func TestEnds(t *testing.T) {
	wantForm(t, "§", "a +§", "a or§", "a == bool§", "a and on (x)§", "a * on (x) group_left§", "a §b", "a §1", "a §\"x\"", "1 §a", "a§,", "a§,b", "a§)", "a§]", "a§}", "a §=", "§=", "§*a", "§or a", "§,", "§,a", "a + §* b", "a or §and b", "a == §== b", "a §bool", "a + b §c", "a[5m] §5m")
}
