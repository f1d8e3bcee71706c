package funcs_test

import (
	"fmt"
	"math/rand"
	"regexp"
	"slices"
	"strings"
	"testing"
	"unicode/utf8"

	"vigil/api"
	"vigil/funcs"
	"vigil/labels"
)

// set is the labels of a text: names and values, with = between.
func set(s string) []api.Label {
	var out []api.Label
	for _, word := range strings.Fields(s) {
		name, v, _ := strings.Cut(word, "=")
		out = append(out, api.Label{Name: name, Value: v})
	}
	return out
}

// many is a set of n labels, l00=1 and on.
func many(n int) []api.Label {
	var out []api.Label
	for i := range n {
		out = append(out, api.Label{Name: fmt.Sprintf("l%02d", i), Value: "1"})
	}
	return out
}

func speltSet(l []api.Label) string {
	var out []string
	for _, x := range l {
		out = append(out, x.Name+"="+x.Value)
	}
	return strings.Join(out, " ")
}

// wantSet says what Replace or Join must answer.
func wantSet(t *testing.T, got []api.Label, e api.Errno, want []api.Label, wantE api.Errno, what ...any) {
	if speltSet(got) != speltSet(want) || len(got) != len(want) || e != wantE {
		t.Helper()
		t.Errorf("%.400s is %.400s, %d; want %.400s, %d", fmt.Sprintln(what...), speltSet(got), e, speltSet(want), wantE)
	}
}

// P14.8: what Replace makes of a label.
func TestReplace(t *testing.T) {
	for _, x := range []struct{ l, dst, replacement, src, re, want string }{
		{"a=xy", "b", "$1", "a", "(.).", "a=xy b=x"},
		{"a=xy", "b", "$1", "a", "(.)", "a=xy"},
		{"a=xy", "a", "$1", "a", "(.).", "a=x"},
		{"a=xy c=z", "b", "$2-$1", "a", "(.)(.)", "a=xy b=y-x c=z"},
		{"a=xy b=1", "b", "${0}!$$", "a", ".*", "a=xy b=xy!$"},
		{"a=xy", "b", "w", "a", ".*", "a=xy b=w"},
		{"a=xy", "Z", "w", "a", "xy", "Z=w a=xy"},
		{"a=xy", "_0", "w", "a", "xy", "_0=w a=xy"},
		// The whole value must be meant.
		{"a=xy", "b", "w", "a", "x", "a=xy"},
		{"a=xy", "b", "w", "a", "y", "a=xy"},
		{"a=xy", "b", "w", "a", "", "a=xy"},
		// An empty value takes the label away; groups that are not there, or not met, are empty.
		{"a=xy b=1", "b", "", "a", ".*", "a=xy"},
		{"a=xy b=1", "b", "$2", "a", "(.).", "a=xy"},
		{"a=xy b=1", "b", "$1", "a", "(z)?xy", "a=xy"},
		{"a=xy b=1", "a", "", "a", ".*", "b=1"},
		{"a=xy", "b", "", "a", ".*", "a=xy"},
		{"a=xy", "a", "", "a", ".*", ""},
		{"a=xy b=1", "b", "", "a", "x", "a=xy b=1"},
		// A source that is not there is empty; it needs no right name.
		{"a=xy", "b", "w", "c", "", "a=xy b=w"},
		{"a=xy", "b", "w", "c", ".+", "a=xy"},
		{"a=xy", "b", "w$1", "0-", "(.*)", "a=xy b=w"},
		{"", "b", "w", "", "", "b=w"},
		{"", "b", "w", "", "x", ""},
		{"", "b", "", "", "", ""},
		// The metric's name is a label.
		{"__name__=m a=n:1", "__name__", "$1", "a", "(.*)", "__name__=n:1 a=n:1"},
		{"__name__=m a=1", "__name__", "", "a", "1", "a=1"},
		{"__name__=m", "a", "$1", "__name__", "(.*)", "__name__=m a=m"},
		{"a=1", "__name__", "m", "a", "1", "__name__=m a=1"},
		{"a=1", "__name", "0", "a", "1", "__name=0 a=1"},
	} {
		got, e := funcs.Replace(set(x.l), x.dst, x.replacement, x.src, x.re)
		wantSet(t, got, e, set(x.want), api.OK, "Replace", x)
	}
	long := strings.Repeat("ä", api.MaxLabel/2)
	got, e := funcs.Replace(set("a="+long), "b", "$1", "a", "(.*)")
	wantSet(t, got, e, set("a="+long+" b="+long), api.OK, "the longest value")
	got, e = funcs.Replace(many(64), "l63", "2", "l00", "1")
	wantSet(t, got, e, append(many(63), api.Label{Name: "l63", Value: "2"}), api.OK, "a label of a full set")
	got, e = funcs.Replace(many(64), "l63", "", "l00", "1")
	wantSet(t, got, e, many(63), api.OK, "a label taken from a full set")
	got, e = funcs.Replace(many(64), "x", "", "l00", "1")
	wantSet(t, got, e, many(64), api.OK, "no label of a full set")
	got, e = funcs.Replace(many(63), "l63", "1", "l00", "1")
	wantSet(t, got, e, many(64), api.OK, "the last label that there is room for")
	got, e = funcs.Replace(many(64), "x", "1", "l00", "2")
	wantSet(t, got, e, many(64), api.OK, "a full set whose label is not meant")
	// A wrong value of the replacement is none where nothing is meant.
	for _, wrong := range []string{"\xff", strings.Repeat("x", api.MaxLabel+1)} {
		got, e = funcs.Replace(set("a=1"), "b", wrong, "a", "2")
		wantSet(t, got, e, set("a=1"), api.OK, "what is not meant")
	}
}

// P14.8: each refusal of Replace, and which is told where several apply.
func TestReplaceRefuses(t *testing.T) {
	full, long := many(64), strings.Repeat("x", api.MaxLabel)
	for _, dst := range []string{"", "0", "a-b", "a:b", "ä", "a ", " a", "\xff", long + "x"} {
		for _, re := range []string{".*", "1", "("} {
			for _, replacement := range []string{"w", "", "\xff"} {
				got, e := funcs.Replace(full, dst, replacement, "l00", re)
				wantSet(t, got, e, nil, api.ErrName, "Replace to", dst)
			}
		}
	}
	for _, re := range []string{"(", "a**", "[z-a]", `\q`, strings.Repeat("x", api.MaxRegex+1), "(a{100}){100}"} {
		for _, replacement := range []string{"w", "", "\xff", long + "x"} {
			got, e := funcs.Replace(full, "x", replacement, "l00", re)
			wantSet(t, got, e, nil, api.ErrForm, "Replace by", re)
		}
	}
	for _, x := range []struct {
		l                []api.Label
		dst, replacement string
	}{
		{full, "x", "w"},
		{full, "l", "w"},
		{many(65), "l00", "w"},
		{many(66), "l00", ""},
		{set("l00=1"), "b", "\xff"},
		{set("l00=1"), "b", "a$1\xc3"},
		{set("l00=1"), "b", long + "x"},
		{set("l00=1"), "b", long + "$1"},
		{set("l00=1"), "b", strings.Repeat("$1", api.MaxLabel+1)},
		{set("l00=1"), "b", strings.Repeat("ä", api.MaxLabel/2) + "x"},
		{set("__name__=m l00=1"), "__name__", "0"},
		{set("l00=1"), "__name__", "a-b"},
		{set("l00=1"), "__name__", "a b"},
		{set("l00=1"), "__name__", "$1"},
		{[]api.Label{{Name: "l00", Value: "\xc3"}}, "b", "$1"},
	} {
		got, e := funcs.Replace(x.l, x.dst, x.replacement, "l00", "(.*)")
		wantSet(t, got, e, nil, api.ErrBad, "Replace of", speltSet(x.l), "to", x.dst, "by", x.replacement)
	}
	got, e := funcs.Replace(many(65), "x", "", "l00", "2")
	wantSet(t, got, e, many(65), api.OK, "what is not meant of a great set")
	got, e = funcs.Replace(many(65), "l64", "", "l00", "1")
	wantSet(t, got, e, many(64), api.OK, "a great set that gets right")
}

// P14.8: what Join makes of labels.
func TestJoin(t *testing.T) {
	const l = "__name__=m a=1 b=2"
	for _, x := range []struct{ dst, sep, srcs, want string }{
		{"c", "-", "a b", "__name__=m a=1 b=2 c=1-2"},
		{"c", "-", "b a b", "__name__=m a=1 b=2 c=2-1-2"},
		{"c", "", "a b", "__name__=m a=1 b=2 c=12"},
		{"c", "-", "a", "__name__=m a=1 b=2 c=1"},
		{"c", "-", "x", "__name__=m a=1 b=2"},
		{"c", "-", "x y", "__name__=m a=1 b=2 c=-"},
		{"c", "-", "a x b", "__name__=m a=1 b=2 c=1--2"},
		{"c", "--", "x a", "__name__=m a=1 b=2 c=--1"},
		{"a", "-", "a a", "__name__=m a=1-1 b=2"},
		{"a", "-", "x", "__name__=m b=2"},
		{"a", "-", "", "__name__=m b=2"},
		{"c", "-", "", "__name__=m a=1 b=2"},
		{"a", "", "x y", "__name__=m b=2"},
		{"__name__", ":", "__name__ __name__", "__name__=m:m a=1 b=2"},
		{"__name__", "", "x", "a=1 b=2"},
		{"Z", "ä", "a b", "Z=1ä2 __name__=m a=1 b=2"},
	} {
		got, e := funcs.Join(set(l), x.dst, x.sep, strings.Fields(x.srcs))
		wantSet(t, got, e, set(x.want), api.OK, "Join", x)
	}
	long := strings.Repeat("x", api.MaxLabel/2)
	got, e := funcs.Join(set("a="+long), "b", "", []string{"a", "a"})
	wantSet(t, got, e, set("a="+long+" b="+long+long), api.OK, "the longest value")
	got, e = funcs.Join(many(64), "l63", "", []string{"x"})
	wantSet(t, got, e, many(63), api.OK, "a label taken from a full set")
	got, e = funcs.Join(many(64), "l63", "-", []string{"l00", "l01"})
	wantSet(t, got, e, append(many(63), api.Label{Name: "l63", Value: "1-1"}), api.OK, "a label of a full set")
	got, e = funcs.Join(many(63), "l63", "", []string{"l00"})
	wantSet(t, got, e, many(64), api.OK, "the last label that there is room for")
	got, e = funcs.Join(nil, "a", "", nil)
	wantSet(t, got, e, nil, api.OK, "nothing of nothing")
}

// P14.8: each refusal of Join, and which is told where several apply.
func TestJoinRefuses(t *testing.T) {
	full, long := many(64), strings.Repeat("x", api.MaxLabel)
	for _, wrong := range []string{"", "0", "a-b", "a:b", "ä", "a ", "\xff", long + "x"} {
		for _, srcs := range [][]string{nil, {"a"}, {"a", "b"}} {
			got, e := funcs.Join(full, wrong, "\xff", srcs)
			wantSet(t, got, e, nil, api.ErrName, "Join to", wrong)
		}
		for _, srcs := range [][]string{{wrong}, {wrong, "a"}, {"a", wrong}, {"a", wrong, "a"}, append(slices.Repeat([]string{"l00"}, 2000), wrong)} {
			got, e := funcs.Join(full, "x", "\xff", srcs)
			wantSet(t, got, e, nil, api.ErrName, "Join of", wrong)
		}
	}
	for _, x := range []struct {
		l        []api.Label
		dst, sep string
		srcs     []string
	}{
		{full, "x", "", []string{"l00"}},
		{full, "x", "-", []string{"y", "z"}},
		{many(65), "l00", "", []string{"l00"}},
		{many(66), "l00", "", []string{"x"}},
		{set("a=1"), "b", "\xff", []string{"a", "a"}},
		{set("a=1"), "b", long, []string{"a", "x"}},
		{set("a=1"), "b", long + "x", []string{"x", "x"}},
		{set("a=1"), "b", "-", slices.Repeat([]string{"x"}, api.MaxLabel+2)},
		{set("a=" + long), "b", "", []string{"a", "a"}},
		{set("__name__=m a=1"), "__name__", "", []string{"a"}},
		{set("__name__=m a=1"), "__name__", "-", []string{"__name__", "a"}},
		{[]api.Label{{Name: "a", Value: "\xc3"}}, "b", "", []string{"a"}},
	} {
		got, e := funcs.Join(x.l, x.dst, x.sep, x.srcs)
		wantSet(t, got, e, nil, api.ErrBad, "Join of", speltSet(x.l), "to", x.dst, "by", x.sep, x.srcs)
	}
	// Two halves of a character are a right value together.
	got, e := funcs.Join([]api.Label{{Name: "a", Value: "\xc3"}, {Name: "b", Value: "\xa4"}}, "c", "", []string{"a", "b"})
	wantSet(t, got, e, []api.Label{{Name: "a", Value: "\xc3"}, {Name: "b", Value: "\xa4"}, {Name: "c", Value: "ä"}}, api.OK, "halves")
}

// withModel is the set with that label put in, by a map; ErrBad of what is not right.
func withModel(l []api.Label, name, v string) ([]api.Label, api.Errno) {
	all := map[string]string{name: v}
	for _, x := range l {
		if x.Name != name {
			all[x.Name] = x.Value
		}
	}
	if !utf8.ValidString(v) || len(v) > api.MaxLabel || name == "__name__" && v != "" && !labels.RightMetric(v) {
		return nil, api.ErrBad
	}
	var out []api.Label
	for name, v := range all {
		if v != "" {
			out = append(out, api.Label{Name: name, Value: v})
		}
	}
	slices.SortFunc(out, func(a, b api.Label) int { return strings.Compare(a.Name, b.Name) })
	if len(out) > 64 {
		return nil, api.ErrBad
	}
	return out, api.OK
}

func oneOf[T any](r *rand.Rand, l ...T) T { return l[r.Intn(len(l))] }

// someSet is a set of few labels, or of as many as there may be, or about.
func someSet(r *rand.Rand) []api.Label {
	var out []api.Label
	for _, name := range []string{"A", "__name__", "a", "b", "c"} {
		if v := oneOf(r, "", "1", "xy", "x-y", "zz", strings.Repeat("v", 600)); v != "" && r.Intn(3) > 0 {
			out = append(out, api.Label{Name: name, Value: v})
		}
	}
	if r.Intn(5) == 0 {
		out = append(out, many(oneOf(r, 59, 60, 61))...)
	}
	return out
}

// P14.8: many calls, held against the library's expressions and a map.
func TestLabelsModel(t *testing.T) {
	r := rand.New(rand.NewSource(148))
	names := []string{"A", "__name__", "a", "b", "c", "d", "l00", "x9", "0", "", "a-b"}
	got, outcomes := 0, map[api.Errno]int{}
	for range 20000 {
		l, dst := someSet(r), oneOf(r, names...)
		src, re := oneOf(r, names...), oneOf(r, "(.*)", "(.)(.*)", "(x)?(.*)", "(.+)-(.+)", "1|xy", "", "(", "z+(z)", "[xy]*")
		replacement := oneOf(r, "${1}", "${2}-${1}", "w", "", "${0}${0}", "${3}", "\xff", "m:${1}")
		want, wantE := l, api.OK
		if !labels.RightName(dst) {
			want, wantE = nil, api.ErrName
		} else if re == "(" {
			want, wantE = nil, api.ErrForm
		} else if whole := regexp.MustCompile("^(?:" + re + ")$"); whole.MatchString(labels.Get(l, src)) {
			text := labels.Get(l, src)
			v := whole.ExpandString(nil, replacement, text, whole.FindStringSubmatchIndex(text))
			want, wantE = withModel(l, dst, string(v))
		}
		answer, e := funcs.Replace(l, dst, replacement, src, re)
		wantSet(t, answer, e, want, wantE, "Replace of", speltSet(l), dst, replacement, src, re)
		outcomes[e]++

		srcs, sep := []string{}, oneOf(r, "", "-", ":", "\xff")
		for range r.Intn(4) {
			srcs = append(srcs, oneOf(r, names[:8+r.Intn(4)]...))
		}
		if wrong := func(s string) bool { return !labels.RightName(s) }; wrong(dst) || slices.ContainsFunc(srcs, wrong) {
			want, wantE = nil, api.ErrName
		} else {
			var values []string
			for _, name := range srcs {
				values = append(values, labels.Get(l, name))
			}
			want, wantE = withModel(l, dst, strings.Join(values, sep))
		}
		answer, e = funcs.Join(l, dst, sep, srcs)
		wantSet(t, answer, e, want, wantE, "Join of", speltSet(l), dst, sep, srcs)
		outcomes[e]++
		got++
	}
	for _, e := range []api.Errno{api.OK, api.ErrName, api.ErrForm, api.ErrBad} {
		if outcomes[e] < 500 {
			t.Error("outcome", e, "came", outcomes[e], "times of", got)
		}
	}
}
