package parse_test

import (
	"math/rand"
	"regexp"
	"slices"
	"strings"
	"testing"
	"unicode/utf8"

	"vigil/api"
	"vigil/funcs"
	"vigil/labels"
	"vigil/num"
	"vigil/parse"
)

// grammar is the chapter's grammar, row by row: what begins with a capital letter has a row of its own, all else is a token. "no(" is no token: it says that what is next is no opening bracket.
var grammar = map[string][]string{
	"Query":         {"Operand Others"},
	"Others":        {"", "Operator Operand Others"},
	"Operator":      {"joining Matching", "comparison Bool Matching Card", "arithmetic Matching Card"},
	"Bool":          {"", "bool"},
	"Matching":      {"", "on Names", "ignoring Names"},
	"Card":          {"", "group_left Include", "group_right Include"},
	"Include":       {"no(", "Names"},
	"Names":         {"( )", "( label MoreNames"},
	"MoreNames":     {")", ", label MoreNames"},
	"Operand":       {"+ Operand", "- Operand", "Primary"},
	"Primary":       {"number Fixed", "string Fixed", "( Query ) Fixed", "function ( Arguments Fixed", "aggregation Group", "Selector Range"},
	"Group":         {"( Arguments Behind", "By ( Arguments Fixed"},
	"Behind":        {"Fixed", "By Fixed"},
	"By":            {"by Names", "without Names"},
	"Arguments":     {")", "Query MoreArguments"},
	"MoreArguments": {")", ", Query MoreArguments"},
	"Selector":      {"metric", "metric Matchers", "Matchers"},
	"Alone":         {"word", "word Matchers", "Matchers"},
	"Matchers":      {"{ }", "{ Matcher MoreMatchers"},
	"MoreMatchers":  {"}", ", }", ", Matcher MoreMatchers"},
	"Matcher":       {"label sign string"},
	"Range":         {"Free", "[ span ] Free"},
	"Free":          {"Fixed", "Offset MayHaveAt", "At MayHaveOffset"},
	"MayHaveAt":     {"Fixed", "At Fixed"},
	"MayHaveOffset": {"Fixed", "Offset Fixed"},
	"Fixed":         {"", "[ span : ] Free", "[ span : span ] Free"},
	"Offset":        {"offset length", "offset - length"},
	"At":            {"@ seconds", "@ - seconds"},
}

// The texts that tokens have.
var (
	blankForm    = regexp.MustCompile(`^(?:[ \t\n\r]|#[^\n]*)*`)
	wordForm     = regexp.MustCompile(`^[a-zA-Z_:][a-zA-Z0-9_:]*`)
	signForm     = regexp.MustCompile(`^(?:[=!]~|[=!<>]=|[(){}\[\],@+\-*/%=<>])`)
	spanForm     = regexp.MustCompile(`^[a-zA-Z0-9]+`)
	stringForm   = regexp.MustCompile("^(?:\"(?:[^\"\\\\\n]|\\\\[\\\\\"'ntr])*\"|'(?:[^'\\\\\n]|\\\\[\\\\\"'ntr])*'|`[^`]*`)")
	infinityForm = regexp.MustCompile(`^(?i:inf|nan)$`)
	wordsForm    = regexp.MustCompile(`^(?:sum|avg|min|max|count|group|stddev|stdvar|topk|bottomk|quantile|count_values)$`)
	reservedForm = regexp.MustCompile(`^(?:sum|avg|min|max|count|group|stddev|stdvar|topk|bottomk|quantile|count_values|and|or|unless|by|without|on|ignoring|group_left|group_right|bool|offset|(?i:inf|nan))$`)
)

// classes are the tokens of several texts.
var classes = map[string]string{
	"joining":    "^(?:and|or|unless)$",
	"comparison": "^(?:==|!=|<|<=|>|>=)$",
	"arithmetic": `^[+\-*/%]$`,
	"sign":       "^(?:=|!=|=~|!~)$",
}

var classForms = func() map[string]*regexp.Regexp {
	out := map[string]*regexp.Regexp{}
	for name, form := range classes {
		out[name] = regexp.MustCompile(form)
	}
	return out
}()

// longestNumber is how many bytes the longest number has that s begins with.
func longestNumber(s string) int {
	if word := wordForm.FindString(s); infinityForm.MatchString(word) {
		return len(word)
	}
	if s == "" || !strings.Contains("0123456789.", s[:1]) {
		return 0
	}
	for n := min(len(s), api.MaxNumber); n > 0; n-- {
		if _, why := num.Parse(s[:n]); why == api.OK {
			return n
		}
	}
	return 0
}

// width is how many bytes a token has, if s begins with it, else 0.
func width(token, s string) int {
	word := wordForm.FindString(s)
	callable := word != "" && !reservedForm.MatchString(word)
	called := callable && strings.HasPrefix(s[len(word):][len(blankForm.FindString(s[len(word):])):], "(")
	whether := func(ok bool, n int) int {
		if ok {
			return n
		}
		return 0
	}
	switch token {
	case "number":
		return longestNumber(s)
	case "seconds":
		n := longestNumber(s)
		v, _ := num.Parse(s[:n])
		return whether(v <= 1e11, n)
	case "string":
		text := stringForm.FindString(s)
		return whether(utf8.ValidString(text), len(text))
	case "span", "length":
		text := spanForm.FindString(s)
		ms, why := num.Duration(text)
		return whether(why == api.OK && (ms > 0 || token == "length"), len(text))
	case "label":
		return whether(labels.RightName(word), len(word))
	case "metric":
		return whether(callable && !called, len(word))
	case "word": // where no function may stand, a bracket behind it is what is wrong
		return whether(callable, len(word))
	case "function":
		return whether(called, len(word))
	case "aggregation":
		return whether(wordsForm.MatchString(word), len(word))
	case ":":
		return whether(strings.HasPrefix(s, ":"), 1)
	}
	next := word
	if next == "" {
		next = signForm.FindString(s)
	}
	if form := classForms[token]; form != nil {
		return whether(form.MatchString(next), len(next))
	}
	return whether(next == token, len(next))
}

// stack is what is still to come, the next one first.
type stack struct {
	next string
	rest *stack
}

// opened is the stacks that begin with a token, or are empty, for what a stack may come to ahead of s.
func opened(l *stack, s string, out []*stack) []*stack {
	switch {
	case l == nil:
		return append(out, nil)
	case l.next == "no(":
		if strings.HasPrefix(s, "(") {
			return out
		}
		return opened(l.rest, s, out)
	case grammar[l.next] == nil:
		return append(out, l)
	}
	for _, row := range grammar[l.next] {
		rest := l.rest
		parts := strings.Fields(row)
		for i := range parts {
			rest = &stack{parts[len(parts)-1-i], rest}
		}
		out = opened(rest, s, out)
	}
	return out
}

// modelForm says where and why the form of a text is refused that should be of that row of the grammar, by all that the tokens may begin.
func modelForm(t *testing.T, row, s string) (int, api.Errno) {
	at := len(blankForm.FindString(s))
	stacks := []*stack{{next: row}}
	for {
		var open []*stack
		for _, l := range stacks {
			open = opened(l, s[at:], open)
		}
		if at == len(s) {
			if slices.Contains(open, nil) {
				return 0, api.OK
			}
			return at, api.ErrForm
		}
		n, name := 0, false
		stacks = nil
		for _, l := range open {
			if l == nil {
				continue
			}
			w := width(l.next, s[at:])
			if w == 0 {
				continue
			}
			if n > 0 && w != n {
				t.Fatalf("%q has tokens of %d and of %d bytes at %d", s, n, w, at)
			}
			n, name = w, name || l.next == "function"
			stacks = append(stacks, l.rest)
		}
		if n == 0 {
			return at, api.ErrForm
		}
		if _, _, _, ok := funcs.Known(s[at : at+n]); name && !ok {
			return at, api.ErrName
		}
		at += n + len(blankForm.FindString(s[at+n:]))
	}
}

// checkForm holds the refusal of a text by its form against the model; what is read must be right, and have one form.
func checkForm(t *testing.T, s string) api.Errno {
	t.Helper()
	wantAt, wantWhy := modelForm(t, "Query", s)
	e, at, why := parse.Parse(s)
	switch {
	case wantWhy != api.OK:
		if at != wantAt || why != wantWhy || spelt(e) != spelt(api.Expr{}) {
			t.Fatalf("Parse(%q) is %s, %d, %d; the model's is %d, %d", s, spelt(e), at, why, wantAt, wantWhy)
		}
	case why == api.OK:
		checkRead(t, s, e)
		fallthrough
	default:
		if at != 0 || why == api.ErrForm || why == api.ErrName {
			t.Fatalf("Parse(%q) is refused at %d by %d, and has the form", s, at, why)
		}
	}
	wantAt, wantWhy = modelForm(t, "Alone", s)
	l, at, why := parse.Matchers(s)
	if wantWhy == api.OK && why == api.ErrBad && at == 0 && len(l) == 0 {
		return why
	}
	if at != wantAt || why != wantWhy || (len(l) > 0) != (why == api.OK) {
		t.Fatalf("Matchers(%q) is %v, %d, %d; the model's is %d, %d", s, l, at, why, wantAt, wantWhy)
	}
	return why
}

// checkRead tells of a query that was read that it is right, and that its text is one form of it.
func checkRead(t *testing.T, s string, e api.Expr) {
	t.Helper()
	form := parse.Text(e)
	again, at, why := parse.Parse(form)
	if !parse.Right(e) || form == "" || at != 0 || why != api.OK && len(form) <= api.MaxQuery {
		t.Fatalf("Text of %q is %q, right: %v, read at %d: %d", s, form, parse.Right(e), at, why)
	}
	if why == api.OK && (spelt(again) != spelt(e) || parse.Text(again) != form) {
		t.Fatalf("Text of %q is %q, and of that %q", s, form, parse.Text(again))
	}
}

// someQueries have each row of the grammar.
var someQueries = []string{
	`sum by (x, y) (rate(a{b="c", d!~'e',}[5m] offset -1m @ -1.5))`, `a == bool on (x) group_left (y) -b offset 5m[1h:5m]`, `max_over_time((a + 1)[1h:] @ 5 offset 0) or {b=~"c"} and d unless :e`,
	"topk(3, a) without () * ignoring(by) group_right b{c=`d`} # e\n% .5e1", `count_values("\"\n", a) > bool + - inf`, `label_join(a, "b", ",", 'c', "d") <= NaN / time()`, `(((a)))[5m:1m]`, `foo(1) + bar`, "a{b=\"\xff\"}",
}

var someBytes = []byte(" \n#(){}[],:@+-*/%=!~<>\"'`\\a_0.5mseE$\xc3")

// P13.1: each short change of many queries, and each cut, is read, or refused at the place, as the model says.
func TestChangedQueries(t *testing.T) {
	for _, s := range someQueries {
		for i := range len(s) + 1 {
			checkForm(t, s[:i])
			checkForm(t, s[i:])
			for _, b := range someBytes {
				checkForm(t, s[:i]+string([]byte{b})+s[i:])
				if i < len(s) {
					checkForm(t, s[:i]+string([]byte{b})+s[i+1:])
				}
			}
			for j := i + 1; j <= len(s); j++ {
				checkForm(t, s[:i]+s[j:])
			}
		}
	}
}

// P13.1 and P13.4: queries of tokens at random.
func TestRandomTokens(t *testing.T) {
	r := rand.New(rand.NewSource(1))
	pieces := strings.Split("a b :c x1 rate abs time foo sum topk count_values by without on ignoring group_left group_right bool offset and or unless inf NaN 1 2.5 1e3 .5 5m 1h30m 0s 0 5mx ( ( ( ) ) ) { } [ ] , , : @ + - * / % = == != =~ !~ < <= > >= \"b\" 'c' `d` \"( [5m] [5m:] [5m:1m] (a) {b=\"c\"} {} # $ ! . \xff", " ")
	pieces = append(pieces, "\n", "# x\n")
	times := map[api.Errno]int{}
	for range 60000 {
		var l []string
		for range 1 + r.Intn(9) {
			l = append(l, pieces[r.Intn(len(pieces))])
		}
		times[checkForm(t, strings.Join(l, []string{"", " ", " "}[r.Intn(3)]))]++
	}
	if len(times) < 3 {
		t.Error(times)
	}
}

// P13.1: queries that the grammar makes at random, as they are and with a token changed, left out, or put in.
func TestRandomSentences(t *testing.T) {
	r := rand.New(rand.NewSource(2))
	read := 0
	for range 20000 {
		l := sentence(r, "Query", 0, nil)
		if r.Intn(3) == 0 {
			i := r.Intn(len(l) + 1)
			other := sentence(r, "Query", 6, nil)
			l = slices.Insert(l, i, other[r.Intn(len(other))])
			if j := r.Intn(len(l)); r.Intn(2) == 0 {
				l = slices.Delete(l, j, j+1)
			}
		}
		s := strings.Join(l, []string{" ", " ", "\n", " # x\n"}[r.Intn(4)])
		if len(s) > api.MaxQuery {
			continue
		}
		checkForm(t, s)
		if _, _, why := parse.Parse(s); why == api.OK {
			read++
		}
	}
	if read < 1000 {
		t.Error(read)
	}
}

// sentence is tokens that the grammar makes of one of its rows; the deeper, the shorter.
func sentence(r *rand.Rand, what string, deep int, out []string) []string {
	rows := grammar[what]
	if rows == nil {
		return append(out, tokenOf(r, what)...)
	}
	row := rows[r.Intn(len(rows))]
	if deep > 8 {
		row = slices.MinFunc(rows, func(a, b string) int { return cost(a) - cost(b) })
	}
	for _, part := range strings.Fields(row) {
		out = sentence(r, part, deep+1, out)
	}
	return out
}

// cost is about how far a row goes on; that of a selector is the least among the primaries.
func cost(row string) int {
	n := 0
	for _, part := range strings.Fields(row) {
		n++
		if part == "Query" || part == "Operand" || strings.HasPrefix(part, "More") || part == "Arguments" {
			n += 100
		}
	}
	return n
}

// tokenOf is some text of a token.
func tokenOf(r *rand.Rand, token string) []string {
	some := map[string]string{
		"joining": "and or unless", "comparison": "== != < <= > >=", "arithmetic": "+ - * / %", "sign": "= != =~ !~ =",
		"number": "1 2.5 .5 1e3 inf NaN 0", "seconds": "0 1.5 1e11 1609746000", "string": "\"b\" '' `.*` \"\\n\"", "span": "5m 1ms 1h30m", "length": "0 5m 1d", "label": "b x __name__ by inf", "metric": "a :b foo rate a:b", "function": "abs rate time label_join clamp foo vector scalar max_over_time", "aggregation": "sum topk count_values quantile group", "no(": "",
	}
	if l, ok := some[token]; ok {
		if fields := strings.Fields(l); len(fields) > 0 {
			return fields[r.Intn(len(fields)):][:1]
		}
		return nil
	}
	return []string{token}
}

// R1: any bytes are read or refused, as the model says.
func TestRandomBytes(t *testing.T) {
	r := rand.New(rand.NewSource(3))
	for range 40000 {
		b := make([]byte, r.Intn(14))
		for i := range b {
			b[i] = someBytes[r.Intn(len(someBytes))]
			if r.Intn(8) == 0 {
				b[i] = byte(r.Intn(256))
			}
		}
		checkForm(t, string(b))
	}
}
