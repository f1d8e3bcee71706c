package parse_test

import (
	"slices"
	"strings"
	"testing"

	"vigil/api"
	"vigil/parse"
)

func wantMatchers(t *testing.T, s string, want ...api.Matcher) {
	t.Helper()
	l, at, why := parse.Matchers(s)
	if !slices.Equal(l, want) || at != 0 || why != api.OK {
		t.Errorf("Matchers(%q) is %v, %d, %d, not %v", s, l, at, why, want)
	}
	// They are those of the query.
	if e := read(t, s); !slices.Equal(e.Matchers, want) || e.Kind != api.ESelector {
		t.Errorf("Parse(%q) is %s", s, spelt(e))
	}
}

func wantMatchersRefused(t *testing.T, s string, at int, why api.Errno) {
	t.Helper()
	l, gotAt, got := parse.Matchers(s)
	if len(l) > 0 || gotAt != at || got != why {
		t.Errorf("Matchers(%.60q) is %v, %d, %d, not refused at %d by %d", s, l, gotAt, got, at, why)
	}
}

// P13.4: a selector alone.
func TestMatchers(t *testing.T) {
	name := api.Matcher{Kind: api.Equal, Name: "__name__", Value: "a"}
	b, c := api.Matcher{Kind: api.NotEqual, Name: "b", Value: ""}, api.Matcher{Kind: api.Match, Name: "c", Value: "x|y"}
	d := api.Matcher{Kind: api.NotMatch, Name: "d", Value: "z"}
	wantMatchers(t, `a`, name)
	wantMatchers(t, `a{}`, name)
	wantMatchers(t, ` a # x`, name)
	wantMatchers(t, "#\na\n{\n}\n", name)
	wantMatchers(t, `{__name__="a"}`, name)
	wantMatchers(t, `a{b!=""}`, name, b)
	wantMatchers(t, "a{b!='',c=~`x|y`,d!~\"z\",}", name, b, c, d)
	wantMatchers(t, `{b!="",c=~"x|y"}`, b, c)
	wantMatchers(t, `{d!~"z",b!=""}`, d, b)
	wantMatchers(t, `rate`, api.Matcher{Kind: api.Equal, Name: "__name__", Value: "rate"})
	wantMatchers(t, `:a{}`, api.Matcher{Kind: api.Equal, Name: "__name__", Value: ":a"})
	wantMatchers(t, strings.Repeat(" ", api.MaxQuery-1)+"a", name)
}

// P13.4: each refusal, and what is no selector alone.
func TestMatchersRefused(t *testing.T) {
	for _, s := range []string{
		"§", " §", "#§", "§1", "§\"x\"", "§inf", "§NaN", "§sum", "§sum(a)", "§by", "§on", "§bool", "§offset", "§(a)", "§-a", "§+a", "§[5m]", "§$", "§,", "§}", "§@",
		"a§[1m]", "a §[1m:]", "a §offset 1m", "a §@ 1", "a §+ b", "a §b", "a §$", "a§(1)", "foo§(1)", "rate§(a[5m])", "rate §()", "time§()", "a{}§{}", "a{}§[1m]", "a{b=\"c\"} §offset 1m", "{b=\"c\"} §or a", "a{}§)", "a§,", "a §1", "a §\"x\"", "a §;",
		"a{§", "{§", "{b§", "{b=§", "{b=\"c\"§", "{b=\"c\",§", "{§,}", "{b=\"c\",§,}", "{b§}", "{b=§}", "{b=§c}", "{b=§\"c}", "{b=§\"\\x\"}", "{b=§\"\xff\"}", "{§b:c=\"d\"}", "{§1=\"c\"}", "{b§==\"c\"}", "{b=\"c\"§;}", "{§" + strings.Repeat("b", api.MaxLabel+1) + "=\"c\"}",
	} {
		at := strings.Index(s, "§")
		wantMatchersRefused(t, strings.Replace(s, "§", "", 1), at, api.ErrForm)
	}
	for _, s := range []string{`{}`, `{b=""}`, `{b!="c"}`, `{b=~".*"}`, `{b!~"c"}`, `a{b=~"("}`, `{b!~"*"}`, `a{__name__="a"}`, `{__name__="a",__name__="b"}`, `{__name__=""}`, `{b="c",d=~"` + strings.Repeat("x", api.MaxRegex+1) + `"}`} {
		wantMatchersRefused(t, s, 0, api.ErrBad)
	}
	// ErrForm ahead of ErrBad, ErrLarge ahead of both.
	wantMatchersRefused(t, `{} x`, 3, api.ErrForm)
	wantMatchersRefused(t, `a{b=~"("`, 8, api.ErrForm)
	for _, s := range []string{"a", "$", "{}"} {
		wantMatchersRefused(t, s+strings.Repeat(" ", api.MaxQuery+1-len(s)), 0, api.ErrLarge)
	}
}
