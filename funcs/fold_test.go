package funcs_test

import (
	"fmt"
	"math"
	"math/rand"
	"slices"
	"strings"
	"testing"

	"vigil/funcs"
)

// folds is the names of Fold.
const folds = "sum avg min max count group stdvar stddev quantile last"

// P14.3: each fold, and that sums go in the order of their list, from 0 on.
func TestFold(t *testing.T) {
	for _, x := range []struct{ name, l, want string }{
		{"sum", "3 1 2", "6"},
		{"sum", "7", "7"},
		{"sum", "-0", "0"},
		{"sum", "-0 -0", "0"},
		{"sum", "1 1e16 -1e16", "0"},
		{"sum", "1e16 -1e16 1", "1"},
		{"sum", "1e16 1 1", "1e16"},
		{"sum", "1 1 1e16", "10000000000000002"},
		{"sum", "1e308 1e308 -1e308", "inf"},
		{"sum", "1e308 -1e308 1e308", "1e308"},
		{"sum", "-max -max", "-inf"},
		{"sum", "inf -inf", "nan"},
		{"sum", "inf inf", "inf"},
		{"sum", "1 nan 2", "nan"},
		{"sum", "stale", "nan"},
		{"sum", "min min", "1e-323"},
		{"avg", "3 1 2", "2"},
		{"avg", "7", "7"},
		{"avg", "1 2", "1.5"},
		{"avg", "-0 -0", "0"},
		{"avg", "1e308 1e308", "inf"},
		{"avg", "1e16 1 1 1", "2500000000000000"},
		{"avg", "inf 1", "inf"},
		{"avg", "inf -inf", "nan"},
		{"avg", "nan 1", "nan"},
		{"min", "3 1 2", "1"},
		{"min", "7", "7"},
		{"min", "nan 2 1 nan", "1"},
		{"min", "2 nan 1", "1"},
		{"min", "nan nan 5", "5"},
		{"min", "nan 5 nan 7", "5"},
		{"min", "nan nan", "nan"},
		{"min", "nan", "nan"},
		{"min", "stale", "nan"},
		{"min", "stale 1", "1"},
		{"min", "0 -0", "0"},
		{"min", "-0 0", "-0"},
		{"min", "inf max", "max"},
		{"min", "nan inf", "inf"},
		{"min", "1 -inf 2", "-inf"},
		{"max", "1 3 2", "3"},
		{"max", "7", "7"},
		{"max", "nan 1 2 nan", "2"},
		{"max", "1 nan 2", "2"},
		{"max", "nan nan -5", "-5"},
		{"max", "nan nan", "nan"},
		{"max", "-stale", "nan"},
		{"max", "0 -0", "0"},
		{"max", "-0 0", "-0"},
		{"max", "nan -inf", "-inf"},
		{"max", "1 inf 2", "inf"},
		{"count", "3 1 2", "3"},
		{"count", "nan stale", "2"},
		{"count", "0", "1"},
		{"group", "3 1 2", "1"},
		{"group", "nan", "1"},
		{"group", "0 0", "1"},
		{"stdvar", "1 3", "1"},
		{"stdvar", "3 1 2", "0.6666666666666666"},
		{"stdvar", "5", "0"},
		{"stdvar", "-0", "0"},
		{"stdvar", "2 4 4 4 5 5 7 9", "4"},
		{"stdvar", "1e200 -1e200", "inf"},
		{"stdvar", "max max", "inf"},
		{"stdvar", "inf", "nan"},
		{"stdvar", "1 nan", "nan"},
		{"stdvar", "min -min", "0"},
		{"stddev", "1 3", "1"},
		{"stddev", "2 4 4 4 5 5 7 9", "2"},
		{"stddev", "5", "0"},
		{"stddev", "1e200 -1e200", "inf"},
		{"stddev", "-inf", "nan"},
		{"stddev", "nan 1", "nan"},
		{"stddev", "stale 1", "nan"},
		{"quantile", "3 1 2", "1.5"},
		{"quantile", "7", "7"},
		{"quantile", "nan", "nan"},
		{"last", "3 1 2", "2"},
		{"last", "7", "7"},
		{"last", "1 nan", "nan"},
		{"last", "1 stale", "nan"},
		{"last", "1 -inf", "-inf"},
		{"last", "1 -0", "-0"},
	} {
		got, ok := funcs.Fold(x.name, list(x.l), 0.25)
		if !ok {
			t.Error(x.name, x.l, "is none")
		}
		wantFloat(t, got, value(x.want), x.name, "of", x.l)
	}
}

// P14.3: the arg counts for the quantile alone.
func TestFoldArg(t *testing.T) {
	l := list("4 1 3")
	for _, arg := range odd {
		for _, name := range strings.Fields(folds) {
			got, ok := funcs.Fold(name, l, arg)
			want := funcs.Quantile(arg, l)
			if name != "quantile" {
				want, _ = funcs.Fold(name, l, 0)
			}
			wantFloat(t, got, want, name, arg)
			if !ok {
				t.Error(name, arg, "is none")
			}
		}
	}
}

// P14.3: no numbers, and names that there are not.
func TestFoldRefuses(t *testing.T) {
	for _, name := range strings.Fields(folds) {
		for _, none := range [][]float64{nil, {}} {
			got, ok := funcs.Fold(name, none, 0.5)
			wantNone(t, got, ok, name, "of none")
		}
		for _, other := range []string{strings.ToUpper(name), name + "_over_time", name + " ", name[1:]} {
			got, ok := funcs.Fold(other, []float64{1}, 0.5)
			wantNone(t, got, ok, other)
		}
	}
	for _, name := range []string{"", "nosuch", "topk", "bottomk", "count_values", "absent", "present", "changes", "abs", "rate", "first", "Sum", "+", "\xff"} {
		for _, l := range [][]float64{nil, {1}, {1, 2}} {
			got, ok := funcs.Fold(name, l, 0.5)
			wantNone(t, got, ok, name)
		}
	}
}

// P14.3: quantiles at the ends, between two numbers, and of odd ones.
func TestQuantile(t *testing.T) {
	for _, x := range []struct{ q, l, want string }{
		{"0.5", "3 1 2", "2"},
		{"0.25", "1 2", "1.25"},
		{"0.75", "2 1", "1.75"},
		{"0.5", "4 2 3 1", "2.5"},
		{"0.25", "5 4 3 2 1", "2"},
		{"0", "3 1 2", "1"},
		{"-0", "3 1 2", "1"},
		{"1", "3 1 2", "3"},
		{"0.9999999999999999", "1 2", "2"},
		{"min", "1 2", "1"},
		{"0", "7", "7"},
		{"0.3", "7", "7"},
		{"1", "7", "7"},
		{"-1", "3 1 2", "-inf"},
		{"-min", "3 1 2", "-inf"},
		{"-inf", "7", "-inf"},
		{"1.5", "3 1 2", "inf"},
		{"1.0000000000000002", "3 1 2", "inf"},
		{"inf", "7", "inf"},
		{"nan", "3 1 2", "nan"},
		{"stale", "3 1 2", "nan"},
		{"0.5", "", "nan"},
		{"-1", "", "nan"},
		{"2", "", "nan"},
		{"nan", "", "nan"},
		// NaNs are first.
		{"0", "1 nan", "nan"},
		{"1", "1 nan", "1"},
		{"0.5", "1 nan", "nan"},
		{"0.5", "2 1 nan", "1"},
		{"0.5", "nan 2 nan 1 3", "1"},
		{"0.75", "nan 2 stale 1 3", "2"},
		{"0.25", "nan 2 nan 1 3", "nan"},
		{"0.5", "stale", "nan"},
		// An infinite number with a weight of 0 is none.
		{"0.5", "1 inf", "inf"},
		{"0.5", "-inf 1", "-inf"},
		{"0.5", "-inf inf", "nan"},
		{"0", "1 inf", "nan"},
		{"1", "1 inf", "nan"},
		{"0", "inf", "nan"},
		{"0", "2 1 inf", "1"},
		{"0.5", "2 1 inf", "nan"},
		{"0.5", "max max", "max"},
		{"0.5", "max -max", "0"},
		{"0.5", "min min", "0"},
		// Noughts stay in the order in which they stand.
		{"1", "0 -0", "-0"},
		{"1", "-0 0", "0"},
		{"0", "-0 -0", "-0"},
		{"-0", "-0", "-0"},
		{"-0", "-0 5", "0"},
	} {
		wantFloat(t, funcs.Quantile(value(x.q), list(x.l)), value(x.want), "the quantile", x.q, "of", x.l)
	}
}

// foldModel is what the chapter says of a fold, step by step.
func foldModel(name string, l []float64, arg float64) (float64, bool) {
	if len(l) == 0 || !slices.Contains(strings.Fields(folds), name) {
		return 0, false
	}
	n := float64(len(l))
	total, squares := 0.0, 0.0
	for _, v := range l {
		total = plus(total, v)
	}
	for _, v := range l {
		x := less(v, by(total, n))
		squares = plus(squares, times(x, x))
	}
	// The first of those that nothing is below or above, and a NaN only of NaNs.
	extreme := func(sign float64) float64 {
		l := slices.DeleteFunc(slices.Clone(l), math.IsNaN)
		for _, v := range l {
			if !slices.ContainsFunc(l, func(x float64) bool { return sign*x < sign*v }) {
				return v
			}
		}
		return nan
	}
	switch name {
	case "sum":
		return total, true
	case "avg":
		return by(total, n), true
	case "min":
		return extreme(1), true
	case "max":
		return extreme(-1), true
	case "count":
		return n, true
	case "stdvar":
		return by(squares, n), true
	case "stddev":
		return math.Sqrt(by(squares, n)), true
	case "quantile":
		return quantileModel(arg, l), true
	case "last":
		return l[len(l)-1], true
	}
	return 1, true
}

// quantileModel puts each number in its place by how many stand ahead of it.
func quantileModel(q float64, l []float64) float64 {
	n := len(l)
	switch {
	case n == 0 || q != q:
		return nan
	case q < 0:
		return negInf
	case q > 1:
		return inf
	}
	sorted := make([]float64, n)
	for i, v := range l {
		place := 0
		for j, x := range l {
			below := x < v || x != x && v == v
			level := x == v || x != x && v != v
			if below || level && j < i {
				place++
			}
		}
		sorted[place] = v
	}
	r := times(q, float64(n-1))
	i := math.Floor(r)
	k := math.Min(i+1, float64(n-1))
	w := less(r, i)
	return plus(times(sorted[int(i)], less(1, w)), times(sorted[int(k)], w))
}

// P14.3, R6: many lists and quantiles, odd ones among them.
func TestFoldModel(t *testing.T) {
	r := rand.New(rand.NewSource(142))
	for range 4000 {
		l := floats(r, r.Intn(8))
		arg := []float64{0, 1, 0.5, r.Float64(), r.Float64(), r.Float64(), someFloat(r)}[r.Intn(7)]
		for _, name := range strings.Fields(folds + " nosuch") {
			got, ok := funcs.Fold(name, l, arg)
			want, wantOK := foldModel(name, l, arg)
			what := fmt.Sprint(name, " of ", l, " by ", arg)
			if !wantOK {
				wantNone(t, got, ok, what)
				continue
			}
			wantFloat(t, got, want, what)
		}
		wantFloat(t, funcs.Quantile(arg, l), quantileModel(arg, l), "Quantile of", l, "by", arg)
	}
}

// P14.3: a long list.
func TestQuantileLong(t *testing.T) {
	r := rand.New(rand.NewSource(143))
	var l []float64
	for _, i := range r.Perm(100001) {
		l = append(l, float64(i))
	}
	for _, q := range []float64{0, 0.125, 0.5, 0.75, 1} {
		wantFloat(t, funcs.Quantile(q, l), q*100000, "the quantile", q)
	}
}
