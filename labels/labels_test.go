package labels_test

import (
	"slices"
	"strconv"
	"strings"
	"testing"

	"vigil/api"
	"vigil/labels"
)

// of makes labels of words like a=1.
func of(words ...string) []api.Label {
	var l []api.Label
	for _, w := range words {
		name, value, _ := strings.Cut(w, "=")
		l = append(l, api.Label{Name: name, Value: value})
	}
	return l
}

// roomy is l with spare room that holds other labels; its second result tells whether all of it is still so.
func roomy(l []api.Label) ([]api.Label, func() bool) {
	whole := append(slices.Clone(l), of("spare=1", "room=2", "behind=3")...)
	was := slices.Clone(whole)
	return whole[:len(l)], func() bool { return slices.Equal(whole, was) }
}

// numbered makes so many labels with names that rise.
func numbered(n int) []api.Label {
	var l []api.Label
	for i := range n {
		l = append(l, api.Label{Name: "n" + strconv.Itoa(1000+i), Value: "v"})
	}
	return l
}

func TestNames(t *testing.T) {
	long := strings.Repeat("x", api.MaxLabel)
	for _, x := range []struct {
		in           string
		name, metric bool
	}{
		{"", false, false}, {"a", true, true}, {"z", true, true}, {"A", true, true}, {"Z", true, true}, {"_", true, true},
		{"__name__", true, true}, {"a0", true, true}, {"a9", true, true}, {"0", false, false}, {"9a", false, false}, {"_0", true, true},
		{":", false, true}, {"a:b", false, true}, {":0", false, true}, {"a:", false, true},
		{"a-b", false, false}, {"a b", false, false}, {"a.b", false, false}, {"a/", false, false}, {"a;", false, false},
		{"a@", false, false}, {"a[", false, false}, {"a`", false, false}, {"a{", false, false}, {"a^", false, false},
		{"é", false, false}, {"aé", false, false}, {"a\x00", false, false}, {"a\xff", false, false}, {"a\n", false, false}, {" a", false, false},
		{long, true, true}, {long + "x", false, false}, {":" + long[1:], false, true}, {":" + long, false, false},
	} {
		if labels.RightName(x.in) != x.name {
			t.Errorf("RightName(%q) is %v", x.in, !x.name)
		}
		if labels.RightMetric(x.in) != x.metric {
			t.Errorf("RightMetric(%q) is %v", x.in, !x.metric)
		}
	}
}

func TestNew(t *testing.T) {
	long := strings.Repeat("x", api.MaxLabel)
	for i, x := range []struct {
		in, want []api.Label
		e        api.Errno
	}{
		{of("b=1", "a=2", "c="), of("a=2", "b=1"), api.OK},
		{nil, nil, api.OK},
		{of("a="), nil, api.OK},
		{of("a=1", "a=2"), nil, api.ErrTwice},
		{of("a=1", "a=1"), nil, api.ErrTwice},
		{of("a=1", "b=1", "a=2"), nil, api.ErrTwice},
		{of("a=1", "a="), of("a=1"), api.OK},
		{of("a=", "a=1", "a="), of("a=1"), api.OK},
		{of("a=", "a="), nil, api.OK},
		{of("0a=1"), nil, api.ErrName},
		{of("0a="), nil, api.ErrName},
		{of("=1"), nil, api.ErrName},
		{of("a:b=1"), nil, api.ErrName},
		{of("a=\xff"), nil, api.ErrName},
		{of("a=é\n\x00\"\\="), of("a=é\n\x00\"\\="), api.OK},
		{of("a=\xc3"), nil, api.ErrName},
		{of("a=\xed\xa0\x80"), nil, api.ErrName},
		{of("a=\uFFFD"), of("a=\uFFFD"), api.OK},
		{of("__name__=a-b"), nil, api.ErrName},
		{of("__name__=1"), nil, api.ErrName},
		{of("__name__="), nil, api.OK},
		{of("__name__=a:b"), of("__name__=a:b"), api.OK},
		{of("__name=a-b"), of("__name=a-b"), api.OK},
		{of("__name__=" + long), of("__name__=" + long), api.OK},
		{of("__name__=" + long + "x"), nil, api.ErrName},
		{of("a=" + long), of("a=" + long), api.OK},
		{of("a=" + long + "x"), nil, api.ErrName},
		{of("a=" + strings.Repeat("é", 512)), of("a=" + strings.Repeat("é", 512)), api.OK},
		{of("a=" + strings.Repeat("é", 513)), nil, api.ErrName},
		{of(long + "=1"), of(long + "=1"), api.OK},
		{of(long + "x=1"), nil, api.ErrName},
		{of(long + "x="), nil, api.ErrName},
		{of("a=1", "Z=2", "_=3", "aa=4", "B=5"), of("B=5", "Z=2", "_=3", "a=1", "aa=4"), api.OK},
	} {
		in, same := roomy(x.in)
		got, e := labels.New(in)
		if e != x.e || !slices.Equal(got, x.want) {
			t.Errorf("%d: New is %q %d", i, got, e)
		}
		if !same() {
			t.Errorf("%d: New changed what it was given", i)
		}
		if e == api.OK && !labels.Right(got) {
			t.Errorf("%d: New's answer is not right", i)
		}
	}
}

// The error that is named first is answered, wherever in the list the reasons stand.
func TestNewOrderOfErrors(t *testing.T) {
	twice := append(numbered(70), of("n1000=2")...)
	if _, e := labels.New(twice); e != api.ErrTwice {
		t.Error("twice and many:", e)
	}
	for _, bad := range []string{"0=1", "0=", "a=\xff", "__name__=0"} {
		if l, e := labels.New(append(slices.Clone(twice), of(bad)...)); e != api.ErrName || len(l) > 0 {
			t.Error(bad, "behind twice and many:", e)
		}
	}
}

func TestNewMany(t *testing.T) {
	many := numbered(65)
	if l, e := labels.New(many); e != api.ErrMany || len(l) > 0 {
		t.Error("65:", e)
	}
	if l, e := labels.New(many[:64]); e != api.OK || !slices.Equal(l, many[:64]) {
		t.Error("64:", e)
	}
	many[10].Value = ""
	if l, e := labels.New(many); e != api.OK || len(l) != 64 || !labels.Right(l) {
		t.Error("65, of which one is left out:", e)
	}
}

func TestRight(t *testing.T) {
	for _, l := range [][]api.Label{nil, of("a=1"), of("a=1", "b=1"), of("__name__=a:b", "a=x y"), of("B=1", "_=1", "a=1"), numbered(64)} {
		if !labels.Right(l) {
			t.Errorf("%q is not right", l)
		}
	}
	for _, l := range [][]api.Label{
		of("b=1", "a=1"), of("a=1", "a=2"), of("a=1", "a=1"), of("a="), of("a=1", "b="), of("=1"), of("0=1"), of("a:b=1"), of("a=\xff"),
		of("__name__=1"), of("__name__=a-b"), of("__name__="), of("a=" + strings.Repeat("x", 1025)), of(strings.Repeat("x", 1025) + "=1"), numbered(65),
	} {
		if labels.Right(l) {
			t.Errorf("%q is right", l)
		}
	}
}

func TestGet(t *testing.T) {
	l := of("a=1", "b=2", "c=3")
	for name, want := range map[string]string{"a": "1", "b": "2", "c": "3", "x": "", "": "", "A": "", "ab": "", "\xff": ""} {
		if got := labels.Get(l, name); got != want {
			t.Errorf("Get(%q) is %q", name, got)
		}
	}
	if labels.Get(nil, "a") != "" {
		t.Error("Get of none")
	}
}

func TestWith(t *testing.T) {
	for i, x := range []struct {
		in          []api.Label
		name, value string
		want        []api.Label
	}{
		{of("a=1"), "b", "2", of("a=1", "b=2")},
		{of("a=1"), "a", "", nil},
		{of("b=1"), "a", "2", of("a=2", "b=1")},
		{of("a=1", "c=3"), "b", "2", of("a=1", "b=2", "c=3")},
		{of("a=1", "b=2", "c=3"), "b", "x", of("a=1", "b=x", "c=3")},
		{of("a=1", "b=2", "c=3"), "a", "x", of("a=x", "b=2", "c=3")},
		{of("a=1", "b=2", "c=3"), "c", "x", of("a=1", "b=2", "c=x")},
		{of("a=1", "b=2", "c=3"), "b", "", of("a=1", "c=3")},
		{of("a=1", "b=2"), "x", "", of("a=1", "b=2")},
		{nil, "a", "1", of("a=1")},
		{nil, "a", "", nil},
		{of("a=1"), "", "x", of("=x", "a=1")},
		{of("a=1"), "\xff-", "\xff", of("a=1", "\xff-=\xff")},
		{of("a=1"), "A b", strings.Repeat("x", 2000), of("A b="+strings.Repeat("x", 2000), "a=1")},
	} {
		in, same := roomy(x.in)
		got := labels.With(in, x.name, x.value)
		if !slices.Equal(got, x.want) {
			t.Errorf("%d: With is %q", i, got)
		}
		scribble(got)
		if !same() {
			t.Errorf("%d: With changed what it was given, or shares it", i)
		}
	}
}

func TestOnlyAndBut(t *testing.T) {
	l := of("a=1", "b=2", "c=3")
	for i, x := range []struct {
		names     []string
		only, but []api.Label
	}{
		{nil, nil, l},
		{[]string{"c", "a", "x"}, of("a=1", "c=3"), of("b=2")},
		{[]string{"b", "b"}, of("b=2"), of("a=1", "c=3")},
		{[]string{"a", "b", "c"}, l, nil},
		{[]string{"", "\xff", "A", "aa"}, nil, l},
	} {
		in, same := roomy(l)
		only, but := labels.Only(in, x.names), labels.But(in, x.names)
		if !slices.Equal(only, x.only) || !slices.Equal(but, x.but) {
			t.Errorf("%d: Only is %q, But is %q", i, only, but)
		}
		scribble(only)
		scribble(but)
		if !same() {
			t.Errorf("%d: what was given is changed or shared", i)
		}
	}
	if len(labels.Only(nil, []string{"a"}))+len(labels.But(nil, nil)) > 0 {
		t.Error("of none")
	}
}

// scribble writes over a list and its spare room, as whoever was answered it may.
func scribble(l []api.Label) {
	l = l[:cap(l)]
	for i := range l {
		l[i] = api.Label{Name: "scribble", Value: "d"}
	}
}

func TestNewMemory(t *testing.T) {
	in, same := roomy(of("a=1", "b=2"))
	got, _ := labels.New(in)
	scribble(got)
	if !same() {
		t.Error("New shares what it was given")
	}
}

func TestIs(t *testing.T) {
	a := of("a=1")
	for _, x := range []struct {
		m    api.Matcher
		want bool
	}{
		{api.Matcher{Kind: api.Equal, Name: "b"}, true},
		{api.Matcher{Kind: api.NotEqual, Name: "a"}, true},
		{api.Matcher{Kind: api.Equal, Name: "a"}, false},
		{api.Matcher{Kind: api.NotEqual, Name: "b"}, false},
		{api.Matcher{Kind: api.Equal, Name: "a", Value: "1"}, true},
		{api.Matcher{Kind: api.NotEqual, Name: "a", Value: "1"}, false},
		{api.Matcher{Kind: api.Equal, Name: "a", Value: "2"}, false},
		{api.Matcher{Kind: api.NotEqual, Name: "a", Value: "2"}, true},
		{api.Matcher{Kind: api.NotEqual, Name: "b", Value: "2"}, true},
		{api.Matcher{Kind: api.Match, Name: "a", Value: "1"}, false},
		{api.Matcher{Kind: api.NotMatch, Name: "a", Value: "2"}, false},
		{api.Matcher{Name: "a", Value: "1"}, false},
		{api.Matcher{Kind: -1, Name: "a", Value: "1"}, false},
		{api.Matcher{Kind: 5, Name: "a", Value: "1"}, false},
	} {
		if labels.Is(a, x.m) != x.want {
			t.Errorf("Is of %+v is %v", x.m, !x.want)
		}
	}
}

func TestAll(t *testing.T) {
	l := of("a=1", "b=2", "c=3")
	all := labels.All(l)
	l[0].Value = "changed behind the call"
	for stop := range 5 {
		var got []api.Label
		for name, value := range all {
			if len(got) == stop {
				break
			}
			got = append(got, api.Label{Name: name, Value: value})
		}
		if !slices.Equal(got, of("a=1", "b=2", "c=3")[:min(stop, 3)]) {
			t.Errorf("stopped at %d: %q", stop, got)
		}
	}
	for range labels.All(nil) {
		t.Error("none tells something")
	}
}
