package scrape_test

import (
	"hash/fnv"
	"math"
	"slices"
	"strconv"
	"strings"
	"testing"

	"vigil/api"
	"vigil/labels"
	"vigil/scrape"
)

// actions are all that there are.
var actions = []int{api.Replace, api.Keep, api.Drop, api.HashMod, api.LabelMap, api.LabelDrop, api.LabelKeep, api.Lower, api.Upper}

// plain is a right rule of that action.
func plain(action int) api.Relabel {
	return api.Relabel{Action: action, Sources: []string{"a", "__b_9"}, Separator: ";", Regex: "(.*)", Modulus: 1, Target: "t", Replacement: "$1"}
}

// isOne tells whether an action is one of these.
func isOne(action int, l ...int) bool { return slices.Contains(l, action) }

// sumOf is the sum by the library's own reckoning.
func sumOf(text string) uint64 {
	h := fnv.New64a()
	h.Write([]byte(text))
	return h.Sum64()
}

// P12.1: which rules are right, action by action.
func TestRight(t *testing.T) {
	just, over := strings.Repeat("x", api.MaxLabel), strings.Repeat("x", api.MaxLabel+1)
	for _, action := range actions {
		namesTarget := isOne(action, api.HashMod, api.Lower, api.Upper)
		for what, x := range map[string]struct {
			change func(r *api.Relabel)
			want   bool
		}{
			"plain":                   {func(r *api.Relabel) {}, true},
			"an empty Regex":          {func(r *api.Relabel) { r.Regex = "" }, true},
			"an open Regex":           {func(r *api.Relabel) { r.Regex = "(" }, false},
			"a Regex that is too far": {func(r *api.Relabel) { r.Regex = "(a{100}){100}" }, false},
			"a Regex just so long":    {func(r *api.Relabel) { r.Regex = strings.Repeat("x", api.MaxRegex) }, true},
			"a Regex too long":        {func(r *api.Relabel) { r.Regex = strings.Repeat("x", api.MaxRegex+1) }, false},
			"no Sources":              {func(r *api.Relabel) { r.Sources = nil }, true},
			"one Source twice":        {func(r *api.Relabel) { r.Sources = []string{"a", "a"} }, true},
			"a Source just so long":   {func(r *api.Relabel) { r.Sources = []string{just} }, true},
			"a Source too long":       {func(r *api.Relabel) { r.Sources = []string{"a", over} }, false},
			"an empty Source":         {func(r *api.Relabel) { r.Sources = []string{""} }, false},
			"a wrong Source":          {func(r *api.Relabel) { r.Sources = []string{"a", "b-c"} }, false},
			"a metric's Source":       {func(r *api.Relabel) { r.Sources = []string{"a:b"} }, false},
			"Modulus 0":               {func(r *api.Relabel) { r.Modulus = 0 }, action != api.HashMod},
			"Modulus below 0":         {func(r *api.Relabel) { r.Modulus = -1 }, action != api.HashMod},
			"the least Modulus":       {func(r *api.Relabel) { r.Modulus = math.MinInt }, action != api.HashMod},
			"the greatest Modulus":    {func(r *api.Relabel) { r.Modulus = math.MaxInt }, true},
			"an empty Target":         {func(r *api.Relabel) { r.Target = "" }, !namesTarget && action != api.Replace},
			"a wrong Target":          {func(r *api.Relabel) { r.Target = "9" }, !namesTarget},
			"a Target of a group":     {func(r *api.Relabel) { r.Target = "$1" }, !namesTarget},
			"a Target no UTF-8":       {func(r *api.Relabel) { r.Target = "\xff" }, !namesTarget},
			"a Target just so long":   {func(r *api.Relabel) { r.Target = just }, true},
			"a Target too long":       {func(r *api.Relabel) { r.Target = over }, !namesTarget},
			"the Target __name__":     {func(r *api.Relabel) { r.Target = "__name__" }, true},
			"no Separator":            {func(r *api.Relabel) { r.Separator = "" }, true},
			"a strange Separator":     {func(r *api.Relabel) { r.Separator = "\xff\n" }, true},
			"no Replacement":          {func(r *api.Relabel) { r.Replacement = "" }, true},
			"a strange Replacement":   {func(r *api.Relabel) { r.Replacement = "\xff${" }, true},
		} {
			r := plain(action)
			x.change(&r)
			if scrape.Right(r) != x.want {
				t.Errorf("%s of the action %d: Right is %v", what, action, !x.want)
			}
		}
	}
	for _, action := range []int{0, -1, api.Upper + 1, math.MaxInt, math.MinInt} {
		if scrape.Right(plain(action)) {
			t.Errorf("the action %d is right", action)
		}
	}
	if scrape.Right(api.Relabel{}) {
		t.Error("a rule that says nothing is right")
	}
}

// P12.1: rules that are not right are passed by, wherever they stand.
func TestWrongRulesArePassedBy(t *testing.T) {
	wrong := []api.Relabel{
		{}, {Action: -1}, {Action: 77, Target: "a", Replacement: "x"}, {Action: api.Replace, Replacement: "x"}, {Action: api.Replace, Regex: "(", Target: "a", Replacement: "x"}, {Action: api.Drop, Sources: []string{"-"}}, {Action: api.Drop, Regex: "a**"}, {Action: api.Keep, Regex: "[", Sources: []string{"a"}},
		{Action: api.HashMod, Target: "a"}, {Action: api.HashMod, Modulus: 5}, {Action: api.HashMod, Modulus: 5, Target: "a-"}, {Action: api.HashMod, Modulus: 5, Target: "a", Regex: "("}, {Action: api.Lower}, {Action: api.Upper, Target: "0"}, {Action: api.Upper, Target: "a", Regex: ")"}, {Action: api.LabelDrop, Regex: "*"}, {Action: api.LabelKeep, Regex: "x{"}, {Action: api.LabelMap, Regex: "[z-a]", Replacement: "x"}, {Action: api.LabelDrop, Regex: ".*", Sources: []string{""}},
	}
	first, last := api.Relabel{Action: api.Replace, Target: "b", Replacement: "2"}, api.Relabel{Action: api.Replace, Sources: []string{"b"}, Regex: "(2)", Target: "c", Replacement: "$1$1"}
	for _, r := range wrong {
		wantRelabel(t, set("a=1"), "a=1", r)
		wantRelabel(t, set("a=1"), "a=1 b=2 c=22", r, first, r, last, r)
	}
	wantRelabel(t, set("a=1"), "a=1", wrong...)
	wantRelabel(t, set("a=1"), "a=1")
	wantRelabel(t, nil, "")
}

// P12.1: the rules are done one behind the other, and none behind the one by which the set goes.
func TestOneBehindTheOther(t *testing.T) {
	put := func(name, value string) api.Relabel {
		return api.Relabel{Action: api.Replace, Target: name, Replacement: value}
	}
	wantRelabel(t, set("a=1"), "a=3 b=2", put("b", "2"), put("a", "2"), put("a", "3"))
	wantRelabel(t, set("a=1"), "gone", put("b", "2"), api.Relabel{Action: api.Drop, Sources: []string{"b"}, Regex: "2"}, put("c", "3"))
	wantRelabel(t, set("a=1"), "a=1 b=2", api.Relabel{Action: api.Drop, Sources: []string{"b"}, Regex: "2"}, put("b", "2"))
	wantRelabel(t, set("a=1"), "gone", api.Relabel{Action: api.Drop}, put("b", "2"))
	wantRelabel(t, set("a=1"), "b=1", api.Relabel{Action: api.LabelMap, Regex: "a", Replacement: "b"}, api.Relabel{Action: api.LabelDrop, Regex: "a"})
	wantRelabel(t, set("a=1"), "", api.Relabel{Action: api.LabelDrop, Regex: "a"})
	wantRelabel(t, set("a=1"), "gone", api.Relabel{Action: api.LabelDrop, Regex: "a"}, api.Relabel{Action: api.Keep, Sources: []string{"a"}, Regex: "1"})
}

// P12.1: the text of a rule.
func TestTextOfRule(t *testing.T) {
	for _, x := range []struct {
		sources, separator, want string
	}{
		{"a", ";", "1"}, {"a b", "", "12"}, {"a b", ";", "1;2"}, {"b a", ";", "2;1"}, {"a a a", "-", "1-1-1"}, {"a lacks b", ";", "1;;2"}, {"lacks lacks", ";", ";"}, {"a b", " sep ", "1 sep 2"}, {"__name__ a", "\n", "m\n1"},
	} {
		r := api.Relabel{Action: api.Replace, Sources: strings.Fields(x.sources), Separator: x.separator, Regex: "(.*)", Target: "t", Replacement: "$1"}
		wantRelabel(t, set("__name__=m a=1 b=2"), "__name__=m a=1 b=2 t="+x.want, r)
		r = api.Relabel{Action: api.HashMod, Sources: r.Sources, Separator: r.Separator, Modulus: math.MaxInt, Target: "t"}
		wantRelabel(t, set("__name__=m a=1 b=2"), "__name__=m a=1 b=2 t="+strconv.FormatUint(sumOf(x.want)%math.MaxInt, 10), r)
		r = api.Relabel{Action: api.Keep, Sources: r.Sources, Separator: r.Separator, Regex: x.want}
		wantRelabel(t, set("__name__=m a=1 b=2"), "__name__=m a=1 b=2", r)
	}
	for _, sources := range [][]string{nil, {}, {"lacks"}} {
		wantRelabel(t, set("a=1"), "gone", api.Relabel{Action: api.Drop, Sources: sources, Separator: ";"})
	}
}

// P12.1: Replace.
func TestReplace(t *testing.T) {
	long := strings.Repeat("x", api.MaxLabel)
	for _, x := range []struct {
		regex, target, replacement, want string
	}{
		{"", "c", "x", "a=1 b=2"}, {"1", "c", "x", "a=1 b=2 c=x"}, {"2", "c", "x", "a=1 b=2"}, {"1|2", "b", "x", "a=1 b=x"}, {".*", "a", "", "b=2"}, {".*", "c", "", "a=1 b=2"}, {"(x)?1", "b", "$1", "a=1"}, {".*", "b", "$1", "a=1"}, {".*", "b", "${0}${0}", "a=1 b=11"},
		{"(.*)", "c$1", "$1", "a=1 b=2 c1=1"}, {"(.*)", "$1", "x", "a=1 b=2"}, {"(.*)", "$1", "", "a=1 b=2"}, {"(.*)", "$2", "x", "a=1 b=2"}, {"(.*)", "c$1$1", "$$", "a=1 b=2 c11=$"}, {"(.*)", "c$", "x", "a=1 b=2"}, {"(.*)", "c-$1", "x", "a=1 b=2"}, {"(.*)", "c:$1", "x", "a=1 b=2"}, {"(.*)", "0", "x", "a=1 b=2"}, {"(.*)", "_${1}_", "$x", "_1_=$x a=1 b=2"},
		{".*", "c", "\xff", "a=1 b=2"}, {".*", "a", "\xff", "a=1 b=2"}, {".*", "c", "é", "a=1 b=2 c=é"}, {".*", "c", long, "a=1 b=2 c=" + long}, {".*", "c", long + "x", "a=1 b=2"}, {".*", "a", long + "x", "a=1 b=2"}, {"(.*)", "c", long + "$1", "a=1 b=2"}, {".*", "c", long + "$1", "a=1 b=2 c=" + long}, {".*", long, "x", "a=1 b=2 " + long + "=x"}, {".*", long + "x", "x", "a=1 b=2"}, {".*", long + "$1", "x", "a=1 b=2 " + long + "=x"}, {"(.*)", long + "$1", "x", "a=1 b=2"},
		{".*", "__name__", "a-b", "a=1 b=2"}, {".*", "__name__", "0", "a=1 b=2"}, {".*", "__name__", "é", "a=1 b=2"}, {".*", "__name__", "a:b", "__name__=a:b a=1 b=2"}, {"(.*)", "__name__", ":$1", "__name__=:1 a=1 b=2"}, {"(.*)", "__name__", "$1", "a=1 b=2"}, {"(.*)", "__name__", "", "a=1 b=2"},
	} {
		wantRelabel(t, set("a=1 b=2"), x.want, api.Relabel{Action: api.Replace, Sources: []string{"a"}, Regex: x.regex, Target: x.target, Replacement: x.replacement})
	}
	// An empty Regex means the empty text.
	wantRelabel(t, set("a=1"), "a=1 c=x", api.Relabel{Action: api.Replace, Target: "c", Replacement: "x"})
	wantRelabel(t, set("a=1"), "a=1 c=x", api.Relabel{Action: api.Replace, Sources: []string{"b"}, Target: "c", Replacement: "x"})
	// A name that is no right one is not even taken away.
	strange := []api.Label{{Name: "0", Value: "1"}, {Name: "a", Value: "1"}}
	wantRelabel(t, strange, spelt(strange), api.Relabel{Action: api.Replace, Target: "0"})
	// A metric's name is taken away, or stays where the new one is none.
	wantRelabel(t, set("__name__=up a=1"), "a=1", api.Relabel{Action: api.Replace, Target: "__name__"})
	wantRelabel(t, set("__name__=up a=1"), "__name__=up a=1", api.Relabel{Action: api.Replace, Target: "__name__", Replacement: "a b"})
	wantRelabel(t, set("__name__=up a=1"), "__name__=down a=1", api.Relabel{Action: api.Replace, Target: "__name__", Replacement: "down"})
}

// P12.1: templates are Expanded as regex says, also where what they come to would be more than memory holds.
func TestTemplates(t *testing.T) {
	for template, want := range map[string]string{
		"$1-$2": "ab-cd", "$$1": "$1", "$$$1": "$ab", "$$$$": "$$", "$$$": "$$", "$": "$", "${1}${2}": "abcd", "${1": "${1", "${1$2": "${1cd", "$${1}": "${1}", "${01}": "${01}", "${0}": "abcd", "$0": "$0", "a$1b$2c": "aabbcdc", "$3x${999}y${1000}": "xy${1000}", "$x$1$": "$xab$", "$1$$2": "ab$2", "x$$": "x$", "$1}": "ab}", "é$1é": "éabé",
	} {
		r := api.Relabel{Action: api.Replace, Sources: []string{"a"}, Regex: "(..)(..)", Target: "t", Replacement: template}
		wantRelabel(t, set("a=abcd"), "a=abcd t="+want, r)
	}
	huge := []api.Label{{Name: "a", Value: strings.Repeat("x", 1<<20)}}
	many := strings.Repeat("$1", 1<<20)
	for _, r := range []api.Relabel{
		{Action: api.Replace, Sources: []string{"a"}, Regex: "(.*)", Target: "t", Replacement: many},
		{Action: api.Replace, Sources: []string{"a"}, Regex: "(.*)", Target: many, Replacement: "t"},
		{Action: api.Replace, Sources: []string{"a"}, Regex: "(.*)", Target: "t", Replacement: strings.Repeat("${0}x", 1<<19)},
	} {
		if l, ok := scrape.Relabel(huge, []api.Relabel{r}); !ok || !slices.Equal(l, huge) {
			t.Error("a template of many groups was put in")
		}
	}
	none := api.Relabel{Action: api.Replace, Sources: []string{"a"}, Regex: "(x)?.*?", Target: "t", Replacement: strings.Repeat("$2", 1<<20) + "end"}
	if l, ok := scrape.Relabel(huge, []api.Relabel{none}); !ok || labels.Get(l, "t") != "end" {
		t.Error("a template of many empty groups was not put in")
	}
}

// P12.1: Keep and Drop.
func TestKeepAndDrop(t *testing.T) {
	for _, x := range []struct {
		regex string
		means bool
	}{
		{"1", true}, {"2", false}, {"", false}, {".*", true}, {"1|2", true}, {"11", false}, {"[^1]", false}, {"^1$", true},
	} {
		keep, drop := "a=1 b=2", "gone"
		if !x.means {
			keep, drop = drop, keep
		}
		wantRelabel(t, set("a=1 b=2"), keep, api.Relabel{Action: api.Keep, Sources: []string{"a"}, Regex: x.regex})
		wantRelabel(t, set("a=1 b=2"), drop, api.Relabel{Action: api.Drop, Sources: []string{"a"}, Regex: x.regex})
	}
	wantRelabel(t, nil, "", api.Relabel{Action: api.Keep})
	wantRelabel(t, nil, "gone", api.Relabel{Action: api.Drop})
	wantRelabel(t, nil, "gone", api.Relabel{Action: api.Keep, Regex: "x"})
	wantRelabel(t, nil, "", api.Relabel{Action: api.Drop, Regex: "x"})
}

// P12.1: HashMod.
func TestHashMod(t *testing.T) {
	for _, text := range []string{"", "a", "node:9100", "é", "\xff", strings.Repeat("x", 3000)} {
		for _, modulus := range []int{1, 2, 3, 10, 1000, 1 << 32, 1 << 62, math.MaxInt} {
			l := []api.Label{{Name: "a", Value: text}}
			if text == "" {
				l = nil
			}
			got, ok := scrape.Relabel(l, []api.Relabel{{Action: api.HashMod, Sources: []string{"a"}, Modulus: modulus, Target: "h", Regex: "never"}})
			if want := strconv.FormatUint(sumOf(text)%uint64(modulus), 10); !ok || labels.Get(got, "h") != want || labels.Get(got, "a") != text {
				t.Errorf("the sum of %.20q modulo %d is %q; want %q", text, modulus, got, want)
			}
		}
	}
	wantRelabel(t, set("a=1"), "a=0", api.Relabel{Action: api.HashMod, Sources: []string{"a"}, Modulus: 1, Target: "a"})
	// Digits are no metric name.
	wantRelabel(t, set("__name__=up"), "__name__=up", api.Relabel{Action: api.HashMod, Modulus: 1, Target: "__name__"})
	wantRelabel(t, set("a=1"), "a=1", api.Relabel{Action: api.HashMod, Modulus: 1, Target: "__name__"})
}

// P12.1: the sum is labels.Hash's, reckoned over the text's bytes.
func TestSumIsHash(t *testing.T) {
	for _, l := range [][]api.Label{set("a=1"), set("__name__=up job=j"), nil} {
		text := string(labels.Bytes(l))
		got, _ := scrape.Relabel([]api.Label{{Name: "a", Value: text}}, []api.Relabel{{Action: api.HashMod, Sources: []string{"a"}, Modulus: 1 << 62, Target: "h"}})
		if want := strconv.FormatUint(labels.Hash(l)%(1<<62), 10); labels.Get(got, "h") != want {
			t.Errorf("the sum of %q is %q; want %s", text, got, want)
		}
	}
}

// P12.1: LabelMap takes names and values as they were ahead of it.
func TestLabelMap(t *testing.T) {
	long := strings.Repeat("x", api.MaxLabel-1)
	for _, x := range []struct {
		l, regex, replacement, want string
	}{
		{"x_a=1 x_b=2 y=3", "x_(.*)", "$1", "a=1 b=2 x_a=1 x_b=2 y=3"}, {"x_a=1 a=2", "x_(.*)", "$1", "a=1 x_a=1"}, {"a=1 aa=2", "(a+)", "a$1", "a=1 aa=1 aaa=2"}, {"a=1 b=2", "a|b", "c", "a=1 b=2 c=2"}, {"b=1 a=2", "(.*)", "$1", "a=2 b=1"}, {"a=1 b=2", "a|b", "a", "a=2 b=2"}, {"a=1 b=2 c=3", "[abc]", "b", "a=1 b=3 c=3"},
		{"a=1", "b", "c", "a=1"}, {"a=1", "", "c", "a=1"}, {"a=1", ".*", "", "a=1"}, {"a=1", ".*", "0", "a=1"}, {"a0=1", "a(.*)", "$1", "a0=1"}, {"a=1", "(a)", "b-$1", "a=1"}, {"a=1", "(a)", "b:$1", "a=1"}, {"a=1", "(a)", "$1$2_${1}", "a=1 a_a=1"}, {"a=1", "a", "$", "a=1"},
		{"a=1 b=x", "a|b", "__name__", "__name__=x a=1 b=x"}, {"b=x c=1", "b|c", "__name__", "__name__=x b=x c=1"}, {"__name__=up", "__(.*)__", "$1", "__name__=up name=up"}, {"__name__=up a=b", "a", "__name__", "__name__=b a=b"},
		{long + "=1", "(.*)", "a$1", "a" + long + "=1 " + long + "=1"}, {long + "=1", "(.*)", "ab$1", long + "=1"},
	} {
		wantRelabel(t, set(x.l), x.want, api.Relabel{Action: api.LabelMap, Sources: []string{"a"}, Regex: x.regex, Replacement: x.replacement})
	}
	wantRelabel(t, nil, "", api.Relabel{Action: api.LabelMap, Regex: ".*", Replacement: "a"})
}

// P12.1: LabelDrop and LabelKeep.
func TestLabelDropAndKeep(t *testing.T) {
	for _, x := range []struct {
		regex, drop, keep string
	}{
		{"a", "__name__=up ab=2 b=3", "a=1"}, {"a.*", "__name__=up b=3", "a=1 ab=2"}, {"", "__name__=up a=1 ab=2 b=3", ""}, {".*", "", "__name__=up a=1 ab=2 b=3"}, {"__name__|b", "a=1 ab=2", "__name__=up b=3"}, {"c", "__name__=up a=1 ab=2 b=3", ""},
	} {
		l := set("__name__=up a=1 ab=2 b=3")
		wantRelabel(t, l, x.drop, api.Relabel{Action: api.LabelDrop, Sources: []string{"b"}, Regex: x.regex})
		wantRelabel(t, l, x.keep, api.Relabel{Action: api.LabelKeep, Sources: []string{"b"}, Regex: x.regex})
	}
}

// P12.1: Lower and Upper turn A to Z and a to z, and no other letters; their Regex says nothing.
func TestLowerAndUpper(t *testing.T) {
	for _, x := range [][3]string{
		{"xY", "xy", "XY"}, {"AZaz@[`{09_", "azaz@[`{09_", "AZAZ@[`{09_"}, {"éÉßĀ", "éÉßĀ", "éÉßĀ"}, {"\u212a\u0131", "\u212a\u0131", "\u212a\u0131"},
	} {
		l := []api.Label{{Name: "a", Value: x[0]}, {Name: "c", Value: "old"}}
		wantRelabel(t, l, "a="+x[0]+" c="+x[1], api.Relabel{Action: api.Lower, Sources: []string{"a"}, Regex: "never", Target: "c"})
		wantRelabel(t, l, "a="+x[0]+" c="+x[2], api.Relabel{Action: api.Upper, Sources: []string{"a"}, Regex: "never", Target: "c"})
		wantRelabel(t, l, "a="+x[1]+" c=old", api.Relabel{Action: api.Lower, Sources: []string{"a"}, Target: "a"})
	}
	for _, action := range []int{api.Lower, api.Upper} {
		wantRelabel(t, set("a=1 b=2"), "b=2", api.Relabel{Action: action, Target: "a"})
		wantRelabel(t, set("a=1"), "", api.Relabel{Action: action, Sources: []string{"b"}, Target: "a"})
		wantRelabel(t, set("a=1"), "a=1", api.Relabel{Action: action, Target: "b"})
		wantRelabel(t, set("a=1"), "a=1", api.Relabel{Action: action, Sources: []string{"a"}, Target: "__name__"})
	}
	wantRelabel(t, set("a=Up"), "__name__=up a=Up", api.Relabel{Action: api.Lower, Sources: []string{"a"}, Target: "__name__"})
}

// P12.1: values of any kind may stand in a set; those that are not right are not put in anew.
func TestStrangeValues(t *testing.T) {
	over := strings.Repeat("x", api.MaxLabel+1)
	l := []api.Label{{Name: "__name__", Value: "a-b"}, {Name: "a", Value: "\xff"}, {Name: "b", Value: over}, {Name: "c", Value: "1"}}
	as := spelt(l)
	wantRelabel(t, l, as)
	for _, source := range []string{"a", "b"} {
		for _, action := range []int{api.Lower, api.Upper, api.Replace} {
			for _, target := range []string{"c", "d", source} {
				wantRelabel(t, l, as, api.Relabel{Action: action, Sources: []string{source}, Regex: "(.*)", Target: target, Replacement: "$1"})
			}
		}
		wantRelabel(t, l, as, api.Relabel{Action: api.LabelMap, Regex: source, Replacement: "c"})
		wantRelabel(t, l, as, api.Relabel{Action: api.LabelMap, Regex: source, Replacement: "d"})
	}
	wantRelabel(t, l, as+" d=a-b", api.Relabel{Action: api.LabelMap, Regex: "__name__|a|b", Replacement: "d"})
	wantRelabel(t, l, as, api.Relabel{Action: api.LabelMap, Regex: ".*", Replacement: "__name__"})
	wantRelabel(t, l, "__name__=a-b c=1", api.Relabel{Action: api.Replace, Target: "a"}, api.Relabel{Action: api.LabelDrop, Regex: "b"})
	// A character of no UTF-8 is one, alone.
	wantRelabel(t, l, as, api.Relabel{Action: api.Keep, Sources: []string{"a"}, Regex: "."})
}

// P12.1: a label more than MaxLabels is not put in; one that is there may get a value, and be lost.
func TestMaxLabels(t *testing.T) {
	full, room := numbered(api.MaxLabels), numbered(api.MaxLabels-1)
	for _, r := range []api.Relabel{
		{Action: api.Replace, Target: "z", Replacement: "x"}, {Action: api.HashMod, Modulus: 9, Target: "z"}, {Action: api.LabelMap, Regex: "n000", Replacement: "z"}, {Action: api.Lower, Sources: []string{"n001"}, Target: "z"}, {Action: api.Upper, Sources: []string{"n001"}, Target: "z"},
	} {
		wantRelabel(t, full, spelt(full), r)
		l, ok := scrape.Relabel(room, []api.Relabel{r})
		if !ok || len(l) != api.MaxLabels || labels.Get(l, "z") == "" || !labels.Right(l) {
			t.Errorf("the last label that there is room for: %q", l)
		}
		wantRelabel(t, full, spelt(l), api.Relabel{Action: api.LabelDrop, Regex: "n063"}, r)
	}
	last := spelt(full[:api.MaxLabels-1])
	wantRelabel(t, full, last+" n063=new", api.Relabel{Action: api.Replace, Target: "n063", Replacement: "new"})
	wantRelabel(t, full, last, api.Relabel{Action: api.Replace, Target: "n063"})
	wantRelabel(t, full, spelt(full), api.Relabel{Action: api.Replace, Target: "z"})
	// Of several that LabelMap would put in, as many as there is room for, by the names from which they come.
	wantRelabel(t, room, spelt(room)+" z2=x", api.Relabel{Action: api.LabelMap, Regex: "n.*(2|4|6)", Replacement: "z$1"})
	wantRelabel(t, room, spelt(room)+" z3=x", api.Relabel{Action: api.LabelMap, Regex: "n0.*([3-9])", Replacement: "z$1"})
	// A set that has more already only gets no other one.
	over := numbered(api.MaxLabels + 3)
	wantRelabel(t, over, spelt(over), api.Relabel{Action: api.Replace, Target: "z", Replacement: "x"})
	wantRelabel(t, over, spelt(over[1:]), api.Relabel{Action: api.LabelDrop, Regex: "n000"})
}
