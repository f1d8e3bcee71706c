package funcs_test

import (
	"fmt"
	"math"
	"slices"
	"strings"
	"testing"

	"vigil/api"
	"vigil/funcs"
)

// whole is all of a list, spare room included, by bits.
func whole(l any) string {
	switch l := l.(type) {
	case []float64:
		out := []string{}
		for _, v := range l[:cap(l)] {
			out = append(out, fmt.Sprintf("%x", math.Float64bits(v)))
		}
		return strings.Join(out, " ")
	case []api.Sample:
		return speltSeries(api.Series{Samples: l[:cap(l)]})
	case []api.Label:
		return fmt.Sprintf("%q", l[:cap(l)])
	case []string:
		return fmt.Sprintf("%q", l[:cap(l)])
	case []api.Series:
		out := ""
		for _, x := range l[:cap(l)] {
			out += whole(x.Labels) + whole(x.Samples) + "\n"
		}
		return out
	}
	panic("no list")
}

// roomySeries is series with spare room everywhere.
func roomySeries(l []api.Series) []api.Series {
	var out []api.Series
	for _, x := range l {
		out = append(out, api.Series{Labels: roomy(api.Label{Name: "spare"}, x.Labels), Samples: roomy(api.Sample{T: 77}, x.Samples)})
	}
	return roomy(api.Series{Labels: set("spare=1"), Samples: samples("77:7")}, out)
}

// spoil changes all of a list, spare room included.
func spoil[T any](l []T, by T) {
	for i := range l[:cap(l)] {
		l[:cap(l)][i] = by
	}
}

// R2: what is handed in is not changed, its spare room included.
func TestArgumentsAreLeft(t *testing.T) {
	numbers := roomy(7, list("3 nan 1 -0 0 stale 2"))
	bounds, falling := roomy(7, list("1 2 4 inf")), roomy(7, list("3 1 4 2"))
	window := roomy(api.Sample{T: 7, V: 7}, samples("10:3 20:stale 30:1 40:nan 50:2"))
	l, srcs := roomy(api.Label{Name: "spare"}, set("a=1 b=2 c=3")), roomy("spare", []string{"c", "a"})
	series := roomySeries(numbered("3 nan 1 none stale 2"))
	all := func() string {
		out := []string{whole(numbers), whole(bounds), whole(falling), whole(window), whole(l), whole(srcs), whole(series)}
		return strings.Join(out, "\n")
	}
	was := all()
	for name := range counts {
		for n := range 4 {
			funcs.Math(name, numbers[:n])
		}
	}
	for _, name := range strings.Fields(folds) {
		funcs.Fold(name, numbers, 0.5)
	}
	funcs.Quantile(0.5, numbers)
	for _, name := range strings.Fields(overs) {
		funcs.Over(name, window, 0.5, 0, 90)
		funcs.Over(name, window, 0.5, 10, 40)
	}
	funcs.Bucket(0.5, bounds, falling)
	for range funcs.Rate(window) {
	}
	for _, dst := range []string{"a", "b", "d"} {
		funcs.Replace(l, dst, "w", "a", "1")
		funcs.Replace(l, dst, "", "a", "1")
		funcs.Replace(l, dst, "w", "a", "2")
		funcs.Join(l, dst, "-", srcs)
		funcs.Join(l, dst, "-", nil)
	}
	funcs.Sorted(series, false)
	funcs.Sorted(series, true)
	if now := all(); now != was {
		t.Errorf("%s\nbecame\n%s", was, now)
	}
}

// R2: what is answered is new memory.
func TestAnswersAreNew(t *testing.T) {
	l := roomy(api.Label{Name: "spare"}, set("a=1 b=2"))
	was := whole(l)
	answers := func() [][]api.Label {
		var out [][]api.Label
		for _, x := range [][3]string{{"c", "w", "1"}, {"b", "2", "1"}, {"c", "", "1"}, {"c", "w", "2"}, {"a", "", "1"}} {
			got, _ := funcs.Replace(l, x[0], x[1], "a", x[2])
			joined, _ := funcs.Join(l, x[0], "", nil)
			out = append(out, got, joined)
		}
		return out
	}
	want := fmt.Sprint(answers())
	for _, x := range answers() {
		spoil(x, api.Label{Name: "spoilt"})
		if whole(l) != was || fmt.Sprint(answers()) != want {
			t.Fatal("an answer shares memory with", l)
		}
	}
	series := roomySeries(numbered("3 nan 1 none 2"))
	was = whole(series)
	for _, down := range []bool{false, true} {
		got := funcs.Sorted(series, down)
		for i := range got {
			rest := whole(got[i+1:])
			spoil(got[i].Labels, api.Label{Name: "spoilt"})
			spoil(got[i].Samples, api.Sample{T: -1, V: -1})
			if whole(got[i+1:]) != rest {
				t.Fatal("series of one answer share memory")
			}
		}
		spoil(got, api.Series{})
		if whole(series) != was {
			t.Fatal("an answer shares memory with", series)
		}
	}
}

// R2: what is handed in is not kept by the iterator that goes on behind the call.
func TestRateKeepsNothing(t *testing.T) {
	l := roomy(api.Sample{T: 7, V: 7}, samples("10:1 20:4 30:stale 40:2"))
	rates := funcs.Rate(l)
	for range 2 {
		var got []string
		for at, v := range rates {
			got = append(got, fmt.Sprint(at, ":", v))
			spoil(l, api.Sample{T: 5, V: 5})
		}
		if !slices.Equal(got, []string{"20:3", "40:2"}) {
			t.Error(got)
		}
	}
}

// R2: nil and empty lists are one.
func TestNilAndEmpty(t *testing.T) {
	for range funcs.Rate(nil) {
		t.Error("Rate of nil tells")
	}
	for range funcs.Rate([]api.Sample{}) {
		t.Error("Rate of none tells")
	}
	if len(funcs.Sorted(nil, true)) != 0 || len(funcs.Sorted([]api.Series{}, true)) != 0 {
		t.Error("Sorted of none")
	}
	wantFloat(t, funcs.Bucket(0.5, nil, []float64{}), nan, "Bucket of none")
	got, e := funcs.Join([]api.Label{}, "a", "-", []string{})
	wantSet(t, got, e, nil, api.OK, "Join of none")
	got, e = funcs.Replace([]api.Label{}, "a", "w", "b", "")
	wantSet(t, got, e, set("a=w"), api.OK, "Replace of none")
}

// R1: every call ends and none panics, whatever it is given.
func TestWrongInputs(t *testing.T) {
	texts := []string{"", "\xff", "0", "a", "__name__", "rate", "round", "sum", "+", "$1", "${0}", "(", ".*", strings.Repeat("x", 5000)}
	sets := [][]api.Label{nil, set("b=1 a=2"), set("a=1 a=2"), {{}}, {{Name: "\xff", Value: "\xff"}}, many(300), set("a= b="), {{Name: "a", Value: strings.Repeat("é", 100000)}}}
	for _, l := range sets {
		for _, a := range texts {
			for _, b := range texts {
				for _, re := range []string{"(.*)", "(", ""} {
					funcs.Replace(l, a, b, "a", re)
					funcs.Replace(l, "c", b, a, re)
				}
				funcs.Join(l, a, b, texts)
				funcs.Join(l, "a", b, []string{"a", "b", "a"})
			}
		}
	}
	odds := append(slices.Clone(odd), odd...)
	for _, name := range append(texts, strings.Fields(parts+" "+overs+" "+folds)...) {
		for _, v := range odd {
			funcs.Part(name, v)
			funcs.Fold(name, odds, v)
			funcs.Fold(name, []float64{v}, v)
			funcs.Math(name, []float64{v})
		}
		for _, at := range [][2]int{{0, 0}, {math.MinInt, math.MaxInt}, {math.MaxInt, math.MinInt}, {-1, 1}} {
			funcs.Over(name, samples("5:1 3:2 3:nan -9:stale 9223372036854775807:1 -9223372036854775808:5 0:inf"), nan, at[0], at[1])
		}
	}
	for _, q := range odd {
		funcs.Quantile(q, odds)
		funcs.Bucket(q, odds, odds)
		funcs.Bucket(q, append(list("1 2"), inf), odds)
		funcs.Bucket(q, append(list("1 2"), inf), []float64{q, q, q})
	}
	for _, l := range sets {
		funcs.Sorted([]api.Series{{Labels: l}, {Labels: l, Samples: samples("5:1 3:2")}, {}}, false)
	}
}

// R1: what comes to more than any memory holds ends too.
func TestGreatTexts(t *testing.T) {
	l := set("a=" + strings.Repeat("x", 1<<20))
	for _, template := range []string{strings.Repeat("${0}", 1<<18), strings.Repeat("$1$$", 1<<18), strings.Repeat("$", 1<<20) + "{0}"} {
		got, e := funcs.Replace(l, "b", template, "a", "(.*)")
		wantSet(t, got, e, nil, api.ErrBad, "a great template")
	}
	got, e := funcs.Join(l, "b", strings.Repeat("y", 1<<20), slices.Repeat([]string{"a"}, 1<<20))
	wantSet(t, got, e, nil, api.ErrBad, "a great join")
}
