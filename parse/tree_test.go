package parse_test

import (
	"math"
	"math/rand"
	"regexp"
	"strings"
	"testing"
	"unicode/utf8"

	"vigil/api"
	"vigil/labels"
	"vigil/num"
	"vigil/parse"
	"vigil/regex"
)

// callForms is the chapter's table of functions: which rows of types their arguments may have, with a letter for each type: s for scalar, t for string (text), v for vector, m for matrix; and the type of what they give.
var callForms = [][3]string{
	{"abs ceil floor sqrt sgn sort sort_desc absent timestamp", "v", "v"},
	{"round", "vs?", "v"},
	{"clamp", "vss", "v"},
	{"clamp_min clamp_max", "vs", "v"},
	{"rate increase delta irate idelta resets changes avg_over_time sum_over_time min_over_time max_over_time count_over_time last_over_time present_over_time stddev_over_time stdvar_over_time absent_over_time", "m", "v"},
	{"quantile_over_time", "sm", "v"},
	{"histogram_quantile", "sv", "v"},
	{"label_replace", "vtttt", "v"},
	{"label_join", "vttt+", "v"},
	{"scalar", "v", "s"},
	{"vector", "s", "v"},
	{"time", "", "s"},
	{"minute hour day_of_week day_of_month day_of_year days_in_month month year", "v?", "v"},
}

// has tells whether a word is among words.
func has(words, word string) bool {
	return word != "" && strings.Contains(" "+words+" ", " "+word+" ")
}

// modelType is the letter of an expression's type; empty, if it has none.
func modelType(e api.Expr) string {
	kids := ""
	for _, kid := range e.Kids {
		t := modelType(kid)
		if t == "" {
			return ""
		}
		kids += t
	}
	is := func(form string) bool { return regexp.MustCompile("^(?:" + form + ")$").MatchString(kids) }
	switch e.Kind {
	case api.ENumber:
		return map[bool]string{true: "s"}[is("")]
	case api.EString:
		return map[bool]string{true: "t"}[is("")]
	case api.ESelector:
		if e.Range != 0 {
			return map[bool]string{true: "m"}[is("")]
		}
		return map[bool]string{true: "v"}[is("")]
	case api.ESubquery:
		return map[bool]string{true: "m"}[is("[vs]")]
	case api.ENegate:
		return map[bool]string{true: kids}[is("[vs]")]
	case api.EBinary:
		return modelBinary(e, kids)
	case api.EAggregate:
		switch {
		case has("sum avg min max count group stddev stdvar", e.Text) && is("v"),
			has("topk bottomk quantile", e.Text) && is("sv"),
			e.Text == "count_values" && is("tv") && labels.RightName(e.Kids[0].Text):
			return "v"
		}
	case api.ECall:
		for _, row := range callForms {
			if has(row[0], e.Text) && is(row[1]) {
				return row[2]
			}
		}
	}
	return ""
}

func modelBinary(e api.Expr, kids string) string {
	joining, comparison := has("and or unless", e.Text), has("== != < <= > >=", e.Text)
	if !joining && !comparison && !has("+ - * / %", e.Text) || !has("vv vs sv ss", kids) {
		return ""
	}
	if e.Bool && !comparison || kids == "ss" && comparison && !e.Bool || kids != "vv" && (joining || e.Grouped || e.Card != 0) {
		return ""
	}
	if e.Grouped && e.On {
		for _, name := range e.Names {
			for _, other := range e.Include {
				if name == other {
					return ""
				}
			}
		}
	}
	return map[bool]string{true: "s", false: "v"}[kids == "ss"]
}

// modelBad tells whether a selector within e is one that Parse refuses.
func modelBad(e api.Expr) bool {
	for _, kid := range e.Kids {
		if modelBad(kid) {
			return true
		}
	}
	if e.Kind != api.ESelector {
		return false
	}
	refused, named := 0, 0
	for _, m := range e.Matchers {
		var empty bool
		switch m.Kind {
		case api.Equal:
			if empty = m.Value == ""; m.Name == "__name__" {
				named++
			}
		case api.NotEqual:
			empty = m.Value != ""
		default:
			prog, _, why := regex.Compile(m.Value)
			if why != api.OK {
				return true
			}
			empty = prog.Match("") != (m.Kind == api.NotMatch)
		}
		if !empty {
			refused++
		}
	}
	return refused == 0 || named > 1
}

// modelDepth is how deep an expression is.
func modelDepth(e api.Expr) int {
	level, depth := []api.Expr{e}, 0
	for ; len(level) > 0; depth++ {
		var next []api.Expr
		for _, x := range level {
			next = append(next, x.Kids...)
		}
		level = next
	}
	return depth
}

// modelFault is why an expression of a right form is refused.
func modelFault(e api.Expr) api.Errno {
	switch {
	case modelDepth(e) > api.MaxDepth:
		return api.ErrLimit
	case modelType(e) == "":
		return api.ErrType
	case modelBad(e):
		return api.ErrBad
	}
	return api.OK
}

// grower makes expressions at random, as Parse could read them but for their types, which are right most of the time.
type grower struct{ *rand.Rand }

func (g grower) of(l ...string) string { return l[g.Intn(len(l))] }

func (g grower) field(l string) string { return g.of(strings.Fields(l)...) }

// seldom is true once in n times.
func (g grower) seldom(n int) bool { return g.Intn(n) == 0 }

func (g grower) names(l string) []string {
	var out []string
	for g.Intn(3) > 0 {
		out = append(out, g.field(l))
	}
	return out
}

// grow makes an expression of the type of that letter, most of the time.
func (g grower) grow(letter string, deep int) api.Expr {
	if g.seldom(60) {
		letter = g.of("s", "t", "v", "m")
	}
	if letter == "t" {
		return text(g.of("", "a", "b", "0", "a b", "\"\\\n\t\r'`é", "__name__", "\x00"))
	}
	if letter == "m" {
		if deep > 0 && g.seldom(2) {
			return g.moved(subquery(g.span(), g.Intn(2)*g.span(), g.grow(g.of("v", "s"), deep-1)))
		}
		return g.moved(over(g.span(), g.selector()))
	}
	if letter == "s" && (deep <= 0 || g.seldom(3)) {
		return number([]float64{0, 1, 2.5, 0.1, 1e21, 1e-7, 5e-324, math.MaxFloat64, math.Inf(1), math.Float64frombits(0x7ff8000000000001), float64(g.Int63())}[g.Intn(11)])
	}
	if deep <= 0 || letter == "v" && g.seldom(4) {
		return g.moved(g.selector())
	}
	switch g.Intn(4) {
	case 0:
		return negate(g.grow(letter, deep-1))
	case 1:
		return g.call(letter, deep)
	case 2:
		if letter == "v" {
			return g.aggregation(deep)
		}
	}
	return g.operation(letter, deep)
}

func (g grower) span() int {
	return []int{1, 1000, 60000, 300000, 5400000, 86400001, api.MaxTime, 1 + g.Intn(api.MaxTime)}[g.Intn(8)]
}

func (g grower) moved(e api.Expr) api.Expr {
	if g.seldom(3) {
		e.Offset = g.span() * (1 - 2*g.Intn(2))
	}
	if g.seldom(3) {
		e.HasAt, e.At = true, []int{0, 1, -1, 1500, -250, 100000000000000, -100000000000000, g.Intn(100000000000001)}[g.Intn(8)]
	}
	return e
}

func (g grower) selector() api.Expr {
	var l []api.Matcher
	if g.Intn(3) > 0 {
		l = append(l, api.Matcher{Kind: api.Equal, Name: "__name__", Value: g.of("a", "b:c", "rate", ":", "sum", "inf", "Inf", "NaN", "and", "on", "0", "a b", "x", "offset", "infinity", "é")})
	}
	for g.Intn(3) == 0 || len(l) == 0 {
		m := api.Matcher{Kind: 1 + g.Intn(4), Name: g.of("a", "b", "by", "inf", "job", "A_1"), Value: g.of("x", "y", "a|b", ".+", "(c)", `"\`, "é\n\t\r'")}
		if g.seldom(12) {
			m.Value = g.of("", ".*", "(", "*")
		}
		if g.seldom(15) {
			m.Name = "__name__"
		}
		l = append(l, m)
	}
	if g.Intn(3) > 0 && g.Intn(3) > 0 { // most of the time with something that the empty value does not satisfy
		l = append(l, api.Matcher{Kind: api.Equal, Name: "z", Value: "z"})
	}
	return selector(l...)
}

func (g grower) operation(letter string, deep int) api.Expr {
	kids := "ss"
	if letter == "v" {
		kids = g.of("vv", "vv", "vs", "sv")
	}
	e := binary(g.field("== != < <= > >= + - * / %"), g.grow(kids[:1], deep-1), g.grow(kids[1:], deep-1))
	if kids == "vv" && g.seldom(3) {
		e.Text = g.field("and or unless")
	}
	comparison := has("== != < <= > >=", e.Text)
	e.Bool = comparison && (kids == "ss" || g.seldom(3))
	if kids == "vv" && g.seldom(2) || g.seldom(60) {
		e.Grouped, e.On, e.Names = true, g.seldom(2), g.names("a b by inf")
	}
	if kids == "vv" && g.seldom(3) && !has("and or unless", e.Text) {
		e.Card, e.Include = 1+g.Intn(2), g.names("c d e on inf x y z")
	}
	return e
}

func (g grower) call(letter string, deep int) api.Expr {
	for {
		row := callForms[g.Intn(len(callForms))]
		if row[2] != letter {
			continue
		}
		e := call(g.field(row[0]))
		for i := range len(row[1]) {
			switch {
			case row[1][i] == '?', row[1][i] == '+':
			case i+1 < len(row[1]) && row[1][i+1] == '?' && g.seldom(2):
			case i+1 < len(row[1]) && row[1][i+1] == '+':
				for range 1 + g.Intn(3) {
					e.Kids = append(e.Kids, g.grow("t", deep-1))
				}
			default:
				e.Kids = append(e.Kids, g.grow(row[1][i:i+1], deep-1))
			}
		}
		if g.seldom(60) {
			e.Kids = append(e.Kids, g.grow("s", 0))
		}
		return e
	}
}

func (g grower) aggregation(deep int) api.Expr {
	e := aggregate(g.field("sum avg min max count group stddev stdvar topk bottomk quantile count_values"))
	switch {
	case has("topk bottomk quantile", e.Text):
		e.Kids = append(e.Kids, g.grow("s", deep-1))
	case e.Text == "count_values":
		e.Kids = append(e.Kids, text(g.of("v", "v", "__name__", "a1", "0", "a:b")))
	}
	e.Kids = append(e.Kids, g.grow("v", deep-1))
	if g.seldom(2) {
		e.Grouped, e.By, e.Names = true, g.seldom(2), g.names("a b by inf __name__")
	}
	return e
}

// The rows in which what is spelt may stand without brackets, behind those of the operators.
const (
	anyRow     = 1
	operandRow = 6
	primaryRow = 7
)

// tokensOf is tokens that are read as e where what stands there is of that row or a tighter one, spelt one way of many.
func (g grower) tokensOf(e api.Expr, row int) []string {
	if g.seldom(8) {
		return g.inBrackets(e)
	}
	if g.seldom(12) && row <= operandRow {
		return append([]string{"+"}, g.tokensOf(e, operandRow)...)
	}
	switch e.Kind {
	case api.ENumber:
		return []string{g.numeral(e.Num)}
	case api.EString:
		return []string{g.quoted(e.Text)}
	case api.ESelector:
		out := g.matchers(e.Matchers)
		if e.Range != 0 {
			out = append(out, "[", g.duration(e.Range), "]")
		}
		return g.movements(out, e)
	case api.ESubquery:
		out := append(g.tokensOf(e.Kids[0], primaryRow), "[", g.duration(e.Range), ":")
		if e.Step != 0 {
			out = append(out, g.duration(e.Step))
		}
		return g.movements(append(out, "]"), e)
	case api.ENegate:
		if row > operandRow {
			return g.inBrackets(e)
		}
		return append([]string{"-"}, g.tokensOf(e.Kids[0], operandRow)...)
	case api.EBinary:
		return g.operationTokens(e, row)
	case api.EAggregate:
		if !e.Grouped {
			return append([]string{e.Text}, g.listed(e.Kids)...)
		}
		names := append([]string{map[bool]string{true: "by", false: "without"}[e.By]}, listedNames(e.Names)...)
		if g.seldom(2) {
			return append(append([]string{e.Text}, names...), g.listed(e.Kids)...)
		}
		return append(append([]string{e.Text}, g.listed(e.Kids)...), names...)
	}
	return append([]string{e.Text}, g.listed(e.Kids)...)
}

func (g grower) inBrackets(e api.Expr) []string {
	return append(append([]string{"("}, g.tokensOf(e, anyRow)...), ")")
}

func (g grower) operationTokens(e api.Expr, row int) []string {
	own := 0
	for i, ops := range operatorRows {
		if has(strings.Join(ops, " "), e.Text) {
			own = i + 1
		}
	}
	if own < row {
		return g.inBrackets(e)
	}
	out := append(g.tokensOf(e.Kids[0], own), e.Text)
	if e.Bool {
		out = append(out, "bool")
	}
	if e.Grouped {
		out = append(append(out, map[bool]string{true: "on", false: "ignoring"}[e.On]), listedNames(e.Names)...)
	}
	right := g.tokensOf(e.Kids[1], own+1)
	if e.Card != 0 {
		out = append(out, []string{"", "group_left", "group_right"}[e.Card])
		if len(e.Include) > 0 || right[0] == "(" || g.seldom(2) {
			out = append(out, listedNames(e.Include)...)
		}
	}
	return append(out, right...)
}

func listedNames(l []string) []string {
	out := []string{"("}
	for i, name := range l {
		if i > 0 {
			out = append(out, ",")
		}
		out = append(out, name)
	}
	return append(out, ")")
}

func (g grower) listed(l []api.Expr) []string {
	out := []string{"("}
	for i, kid := range l {
		if i > 0 {
			out = append(out, ",")
		}
		out = append(out, g.tokensOf(kid, anyRow)...)
	}
	return append(out, ")")
}

func (g grower) matchers(l []api.Matcher) []string {
	var out []string
	if m := l[0]; m.Name == "__name__" && m.Kind == api.Equal && labels.RightMetric(m.Value) && !reservedForm.MatchString(m.Value) && g.Intn(4) > 0 {
		if out, l = append(out, m.Value), l[1:]; len(l) == 0 && g.seldom(2) {
			return out
		}
	}
	out = append(out, "{")
	for i, m := range l {
		if i > 0 {
			out = append(out, ",")
		}
		out = append(out, m.Name, []string{"", "=", "!=", "=~", "!~"}[m.Kind], g.quoted(m.Value))
	}
	if len(l) > 0 && g.seldom(3) {
		out = append(out, ",")
	}
	return append(out, "}")
}

// movements is out with what moves the window, in either order.
func (g grower) movements(out []string, e api.Expr) []string {
	var at, offset []string
	if e.HasAt {
		at = append([]string{"@"}, signed(e.At, num.Seconds)...)
	}
	if e.Offset != 0 || g.seldom(9) {
		offset = append([]string{"offset"}, signed(e.Offset, g.duration)...)
	}
	if g.seldom(2) {
		at, offset = offset, at
	}
	return append(append(out, at...), offset...)
}

func signed(n int, text func(int) string) []string {
	if n < 0 {
		return []string{"-", text(-n)}
	}
	return []string{text(n)}
}

func (g grower) duration(ms int) string {
	if s := num.IntText(ms) + "ms"; len(s) <= 17 && g.seldom(2) {
		return s
	}
	return num.DurationText(ms)
}

func (g grower) numeral(v float64) string {
	switch {
	case math.IsNaN(v):
		return g.of("nan", "NaN", "NAN")
	case math.IsInf(v, 1):
		return g.of("inf", "Inf", "1e999")
	case v == math.Trunc(v) && v < 1e6:
		return g.of(num.Text(v), num.Text(v)+".", "00"+num.Text(v)+"e0", num.Text(v)+"0E-1")
	}
	return num.Text(v)
}

// quoted is a string in one of the quotes that can say it.
func (g grower) quoted(s string) string {
	if !strings.Contains(s, "`") && utf8.ValidString(s) && g.seldom(2) {
		return "`" + s + "`"
	}
	quote := g.of(`"`, `'`)
	return quote + strings.NewReplacer(`\`, `\\`, quote, `\`+quote, "\n", `\n`, "\t", g.of("\t", `\t`), "\r", g.of("\r", `\r`)).Replace(s) + quote
}

// joined is a text of tokens, with blanks where there must be some.
func (g grower) joined(l []string) string {
	var out strings.Builder
	for i, token := range l {
		if i > 0 && (!strings.Contains("(){}[],", l[i-1]) && !strings.Contains("(){}[],", token) || g.seldom(4)) {
			out.WriteString(g.of(" ", " ", "\n", "\t \r", " # (x\n"))
		}
		out.WriteString(token)
	}
	return out.String()
}

// P13.1, P13.2, P13.3 and P13.5: expressions at random, spelt in many ways, are read as they are, or refused for what is wrong with them.
func TestRandomTrees(t *testing.T) {
	g := grower{rand.New(rand.NewSource(4))}
	times := map[api.Errno]int{}
	for range 30000 {
		e := g.grow(g.of("v", "v", "s", "t", "m"), g.Intn(6))
		s := g.joined(g.tokensOf(e, anyRow))
		if len(s) > api.MaxQuery {
			continue
		}
		want := modelFault(e)
		got, at, why := parse.Parse(s)
		if why != want || at != 0 || why == api.OK && spelt(got) != spelt(e) {
			t.Fatalf("Parse(%q) is %s, %d, %d; the tree is %s, %d", s, spelt(got), at, why, spelt(e), want)
		}
		if right := parse.Right(e); right != (want == api.OK) || (parse.Text(e) != "") != right {
			t.Fatalf("%q: right %v, %d, %q", s, right, want, parse.Text(e))
		}
		if want == api.OK {
			checkRead(t, s, e)
		}
		times[why]++
	}
	if times[api.OK] < 3000 || times[api.ErrType] < 300 || times[api.ErrBad] < 300 {
		t.Error(times)
	}
}
