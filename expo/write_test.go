package expo_test

import (
	"math"
	"math/rand"
	"strings"
	"testing"

	"vigil/api"
	"vigil/expo"
	"vigil/labels"
)

// set is labels by name and value, one behind the other, as they stand.
func set(l ...string) []api.Label {
	var out []api.Label
	for i := 0; i < len(l); i += 2 {
		out = append(out, api.Label{Name: l[i], Value: l[i+1]})
	}
	return out
}

var nan = math.Float64frombits(0x7ff8000000000001)

// P11.3: a line as it is written.
func TestText(t *testing.T) {
	up := set("__name__", "up")
	for _, x := range []struct {
		line api.Line
		want string
	}{
		{api.Line{Labels: up}, "up 0\n"}, {api.Line{Labels: up, V: 1.5}, "up 1.5\n"}, {api.Line{Labels: set("__name__", ":a:9"), V: 1}, ":a:9 1\n"},
		{api.Line{Labels: up, V: math.Copysign(0, -1)}, "up -0\n"}, {api.Line{Labels: up, V: math.Inf(1)}, "up +Inf\n"}, {api.Line{Labels: up, V: math.Inf(-1)}, "up -Inf\n"}, {api.Line{Labels: up, V: nan}, "up NaN\n"}, {api.Line{Labels: up, V: math.Float64frombits(api.StaleBits)}, "up NaN\n"}, {api.Line{Labels: up, V: 1e21}, "up 1e+21\n"}, {api.Line{Labels: up, V: 5e-324}, "up 5e-324\n"},
		{api.Line{Labels: up, V: 1, HasT: true}, "up 1 0\n"}, {api.Line{Labels: up, V: 1, T: -7, HasT: true}, "up 1 -7\n"}, {api.Line{Labels: up, V: 1, T: api.MaxTime, HasT: true}, "up 1 9007199254740992\n"}, {api.Line{Labels: up, V: 1, T: -api.MaxTime, HasT: true}, "up 1 -9007199254740992\n"}, {api.Line{Labels: up, V: 1, T: 7}, "up 1\n"},
		{api.Line{Labels: set("__name__", "up", "a", "1"), V: 1}, "up{a=\"1\"} 1\n"}, {api.Line{Labels: set("__name__", "up", "a", "1", "b", "2"), V: 1, T: 2, HasT: true}, "up{a=\"1\",b=\"2\"} 1 2\n"},
		// A name of a label may stand ahead of the metric's.
		{api.Line{Labels: set("A", "1", "Z", "2", "__name__", "up"), V: 1}, "up{A=\"1\",Z=\"2\"} 1\n"}, {api.Line{Labels: set("A", "1", "__name__", "up", "a", "2"), V: 1}, "up{A=\"1\",a=\"2\"} 1\n"},
		{api.Line{Labels: set("__name__", "up", "a", "\\\"\n\t\r\x00é{}=,' "), V: 1}, "up{a=\"\\\\\\\"\\n\t\r\x00é{}=,' \"} 1\n"},
	} {
		if got := expo.Text([]api.Line{x.line}); string(got) != x.want {
			t.Errorf("Text of %v is %q, not %q", x.line, got, x.want)
		}
	}
	l := []api.Line{{Labels: set("__name__", "b"), V: 1}, {Labels: up, V: 2}, {Labels: set("__name__", "b"), V: 1}}
	if got := expo.Text(l); string(got) != "b 1\nup 2\nb 1\n" {
		t.Errorf("%q", got)
	}
	if len(expo.Text(nil)) != 0 || len(expo.Text([]api.Line{})) != 0 {
		t.Error("no lines are written as some")
	}
}

// P11.3: lines whose labels are no set with a metric's name are left out, wherever they stand.
func TestTextLeftOut(t *testing.T) {
	over := strings.Repeat("x", api.MaxLabel+1)
	var wide []api.Label
	for i := range api.MaxLabels + 1 {
		wide = append(wide, api.Label{Name: "__name__" + strings.Repeat("x", i), Value: "up"})
	}
	for _, l := range [][]api.Label{
		nil, {}, set("a", "1"), set("__name__", ""), set("__name__", "9up"), set("__name__", "u p"), set("__name__", "up\n"), set("__name__", "é"), set("__name__", "\xff"), set("__name__", over), set("__name__", "up", "__name__", "up"),
		set("__name__", "up", "a", ""), set("__name__", "up", "a", "1", "a", "1"), set("__name__", "up", "b", "1", "a", "2"), set("a", "1", "__name__", "up"), set("__name__", "up", "", "1"), set("__name__", "up", "a:b", "1"), set("__name__", "up", "é", "1"), set("__name__", "up", "a b", "1"),
		set("__name__", "up", "a", "\xff"), set("__name__", "up", "a", over), set("__name__", "up", over, "1"), set("__name__", "up", "9", "1"), wide,
	} {
		bad := api.Line{Labels: l, V: 1, T: 2, HasT: true}
		if got := expo.Text([]api.Line{bad}); len(got) != 0 {
			t.Errorf("Text of %v is %q", bad, got)
		}
		good := api.Line{Labels: set("__name__", "up"), V: 3}
		if got := expo.Text([]api.Line{bad, good, bad, good, bad}); string(got) != "up 3\nup 3\n" {
			t.Errorf("Text beside %v is %q", bad, got)
		}
	}
	if got := expo.Text([]api.Line{{Labels: wide[:api.MaxLabels], V: 1}}); len(got) == 0 {
		t.Error("a full set is left out")
	}
}

// P11.3: backslash, quote and line end are escaped, and nothing else, byte by byte.
func TestEscape(t *testing.T) {
	for s, want := range map[string]string{
		"": "", "a": "a", `\`: `\\`, `"`: `\"`, "\n": `\n`, `\n`: `\\n`, `\"`: `\\\"`, "\\\n": `\\\n`, `\\`: `\\\\`, "a\nb\"c\\d": `a\nb\"c\\d`, "\t\r\x00 {}=,'": "\t\r\x00 {}=,'", "é∞😀": "é∞😀", "\xff\"\xc3\n": "\xff\\\"\xc3\\n",
	} {
		if got := expo.Escape(s); got != want {
			t.Errorf("Escape(%q) is %q, not %q", s, got, want)
		}
	}
	for b := range 256 {
		s := string([]byte{byte(b)})
		if got := expo.Escape(s); got != s && !strings.Contains("\"\\\n", s) {
			t.Errorf("Escape(%q) is %q", s, got)
		}
	}
	long := strings.Repeat("\n", 1<<20)
	if expo.Escape(long) != strings.Repeat(`\n`, 1<<20) {
		t.Error("a long text")
	}
}

// P11.1 and P11.3: what Escape writes is read back, of any text that is UTF-8.
func TestEscapeBack(t *testing.T) {
	r := rand.New(rand.NewSource(1))
	pieces := []string{`\`, `"`, "\n", "n", "a", " ", "\t", "é", "{", "}", "=", ",", "\x00", "#", "\\n"}
	for range 20000 {
		s := ""
		for range r.Intn(8) {
			s += pieces[r.Intn(len(pieces))]
		}
		escaped := expo.Escape(s)
		x, _, e := expo.ReadLine(`up{a="` + escaped + `"} 1`)
		if e != api.OK || labels.Get(x.Labels, "a") != s || strings.Contains(escaped, "\n") {
			t.Fatalf("%q is written as %q, and read as %q, %d", s, escaped, x.Labels, e)
		}
	}
}

// someLine is a line at random that Text can write.
func someLine(r *rand.Rand) api.Line {
	values := []string{"1", "\\", "\"", "\n", "\\n", "é\u2028", " \t", "{a=\"1\"} 1", "# TYPE up foo", "\x00\r", strings.Repeat("\n", api.MaxLabel), strings.Repeat("\"", api.MaxLabel)}
	names := []string{"a", "b", "A", "Z9", "_", "__", "___", "__name", "__name___", "job", "HELP", strings.Repeat("x", api.MaxLabel)}
	metrics := []string{"up", ":", "_:9", "a", "TYPE", "NaN", strings.Repeat("y", api.MaxLabel)}
	l := set("__name__", metrics[r.Intn(len(metrics))])
	for _, i := range r.Perm(len(names))[:r.Intn(len(names))] {
		l = append(l, api.Label{Name: names[i], Value: values[r.Intn(len(values))]})
	}
	l, _ = labels.New(l)
	x := api.Line{Labels: l, V: someValue(r)}
	if r.Intn(2) == 0 {
		times := []int{0, 1, -1, api.MaxTime, -api.MaxTime, api.MaxTime - 1, r.Intn(2*api.MaxTime) - api.MaxTime}
		x.HasT, x.T = true, times[r.Intn(len(times))]
	}
	return x
}

// someValue is a float of any bits, but of NaNs one alone.
func someValue(r *rand.Rand) float64 {
	values := []float64{0, math.Copysign(0, -1), 1, -1.5, math.Inf(1), math.Inf(-1), nan, math.MaxFloat64, 5e-324}
	if r.Intn(2) == 0 {
		return values[r.Intn(len(values))]
	}
	if v := math.Float64frombits(r.Uint64()); v == v {
		return v
	}
	return nan
}

// P11.4: what Text writes is read as it was, bit by bit, and line by line.
func TestThereAndBack(t *testing.T) {
	r := rand.New(rand.NewSource(2))
	for range 2000 {
		var l []api.Line
		for range r.Intn(6) {
			l = append(l, someLine(r))
		}
		text := expo.Text(l)
		got, families, at, e := expo.Read(text, len(l))
		if len(got) != len(l) || len(families) != 0 || at != 0 || e != api.OK {
			t.Fatalf("%q: %d lines, %v, %d, %d", text, len(got), families, at, e)
		}
		for i, x := range l {
			if !same(got[i], x) {
				t.Fatalf("%v is read as %v", x, got[i])
			}
			line, at, e := expo.ReadLine(strings.TrimSuffix(string(expo.Text(l[i:i+1])), "\n"))
			if !same(line, x) || at != 0 || e != api.OK {
				t.Fatalf("%v is read as %v, %d, %d", x, line, at, e)
			}
		}
		if string(expo.Text(got)) != string(text) {
			t.Fatalf("%q is written as %q", text, expo.Text(got))
		}
		if n := len(told(string(text))); n != len(l) {
			t.Fatalf("%d lines of %d", n, len(l))
		}
		if len(l) > 0 {
			wantBodyRefused(t, string(text), len(l)-1, len(l), api.ErrLimit)
		}
	}
}

// P11.4: a line without a time is read without one, whatever its T; a NaN of other bits as the one NaN; a time out of range not at all.
func TestBackOtherwise(t *testing.T) {
	up := set("__name__", "up")
	wantBody(t, string(expo.Text([]api.Line{{Labels: up, V: 1, T: 9}})), "up 1")
	for _, bits := range []uint64{api.StaleBits, 0x7ff8000000000000, 0xffffffffffffffff, 0x7ff0000000000001} {
		l, _, _, e := expo.Read(expo.Text([]api.Line{{Labels: up, V: math.Float64frombits(bits)}}), 1)
		if e != api.OK || len(l) != 1 || math.Float64bits(l[0].V) != 0x7ff8000000000001 {
			t.Errorf("%x: %v, %d", bits, l, e)
		}
	}
	for _, at := range []int{api.MaxTime + 1, -api.MaxTime - 1, math.MaxInt, math.MinInt} {
		wantBodyRefused(t, string(expo.Text([]api.Line{{Labels: up, V: 1, T: at, HasT: true}})), 1, 1, api.ErrForm)
	}
}
