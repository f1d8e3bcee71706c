package funcs_test

import (
	"math"
	"math/rand"
	"slices"
	"testing"

	"vigil/funcs"
)

// P14.6: each place of r, and what there is no quantile of.
func TestBucket(t *testing.T) {
	for _, x := range []struct{ q, bounds, counts, want string }{
		{"0.5", "1 2 inf", "1 3 4", "1.5"},
		{"0.25", "1 2 inf", "1 3 4", "1"},
		{"0.125", "1 2 inf", "1 3 4", "0.5"},
		{"0.75", "1 2 inf", "1 3 4", "2"},
		{"0.9", "1 2 inf", "1 3 4", "2"},
		{"1", "1 2 inf", "1 3 4", "2"},
		{"0", "1 2 inf", "1 3 4", "0"},
		{"-0", "1 2 inf", "1 3 4", "0"},
		{"0.5", "8 inf", "4 4", "4"},
		{"1", "8 inf", "4 4", "8"},
		{"1", "8 inf", "4 5", "8"},
		{"0.5", "8 inf", "0 4", "8"},
		{"0.5", "1 2 4 8 inf", "0 0 2 4 4", "4"},
		{"0.75", "1 2 4 8 inf", "0 0 2 4 4", "6"},
		{"0.25", "1 2 4 8 inf", "0 0 2 4 4", "3"},
		{"0.5", "1 2 4 8 inf", "1 1 1 3 3", "5"},
		// Of an empty first bucket at its very beginning there is no share.
		{"0", "1 2 inf", "0 3 4", "nan"},
		// A first bound of 0 and below; a bound below 0 that is not the first.
		{"0", "0 2 inf", "1 3 4", "0"},
		{"0.25", "0 2 inf", "1 3 4", "0"},
		{"0", "-0 2 inf", "1 3 4", "-0"},
		{"0", "-1 2 inf", "1 3 4", "-1"},
		{"0.25", "-1 2 inf", "1 3 4", "-1"},
		{"0.5", "-1 2 inf", "1 3 4", "0.5"},
		{"0.5", "-4 -2 inf", "1 3 4", "-3"},
		{"0", "-inf 2 inf", "1 3 4", "-inf"},
		{"0.5", "-inf 2 inf", "1 3 4", "nan"},
		{"0.125", "min inf", "1 1", "0"},
		{"0", "-min inf", "1 1", "-min"},
		{"1", "-5 inf", "1 2", "-5"},
		// q beyond.
		{"-1", "1 2 inf", "1 3 4", "-inf"},
		{"-min", "1 2 inf", "1 3 4", "-inf"},
		{"-inf", "1 2 inf", "0 0 0", "-inf"},
		{"2", "1 2 inf", "1 3 4", "inf"},
		{"1.0000000000000002", "1 2 inf", "1 3 4", "inf"},
		{"inf", "1 2 inf", "0 0 0", "inf"},
		{"nan", "1 2 inf", "1 3 4", "nan"},
		{"stale", "1 2 inf", "1 3 4", "nan"},
		// Lists of other lengths, or too short.
		{"0.5", "", "", "nan"},
		{"0.5", "inf", "1", "nan"},
		{"0.5", "1 2 inf", "1 2", "nan"},
		{"0.5", "1 inf", "1 2 3", "nan"},
		{"0.5", "1 2 inf", "", "nan"},
		{"0.5", "", "1 2", "nan"},
		{"-1", "inf", "1", "nan"},
		{"2", "1 2 inf", "1 2", "nan"},
		// Bounds that don't rise, or don't reach.
		{"0.5", "2 1 inf", "1 2 3", "nan"},
		{"0.5", "1 1 inf", "1 2 3", "nan"},
		{"0.5", "0 -0 inf", "1 2 3", "nan"},
		{"0.5", "1 inf inf", "1 2 3", "nan"},
		{"0.5", "nan inf", "1 2", "nan"},
		{"0.5", "1 nan inf", "1 2 3", "nan"},
		{"0.5", "1 2 nan", "1 2 3", "nan"},
		{"0.5", "1 2 stale", "1 2 3", "nan"},
		{"0.5", "1 2", "1 2", "nan"},
		{"0.5", "1 max", "1 2", "nan"},
		{"0.5", "-inf", "1", "nan"},
		{"2", "1 2", "1 2", "nan"},
		{"-1", "2 1 inf", "1 2 3", "nan"},
		// Counts that fall are as the one ahead.
		{"0.5", "1 2 inf", "2 1 4", "1"},
		{"0.5", "1 2 inf", "2 1 0", "0.5"},
		{"0.5", "1 2 4 inf", "3 1 2 6", "1"},
		{"0.75", "1 2 4 inf", "1 4 2 4", "1.6666666666666665"},
		{"1", "1 2 4 inf", "1 4 2 3", "2"},
		{"0.5", "1 2 inf", "0 -1 4", "2"},
		{"0.5", "1 2 inf", "0 0 0", "nan"},
		{"0.5", "1 2 inf", "-0 0 -0", "nan"},
		{"0.5", "1 2 inf", "-1 -1 0", "nan"},
		{"0", "1 2 inf", "0 0 0", "nan"},
		// Numbers so great that nothing is left of them.
		{"0.5", "1 2 inf", "1 max max", "1.5"},
		{"0.5", "1 2 inf", "1 2 inf", "2"},
		{"0.5", "1 2 inf", "1 inf inf", "nan"},
		{"0.5", "-max max inf", "0 4 4", "inf"},
		{"0.5", "1 2 inf", "nan 2 4", "nan"},
		{"0.5", "1 2 4 inf", "nan 1 3 4", "3"},
		{"0.5", "1 2 inf", "1 2 nan", "nan"},
		{"0", "1 2 inf", "1 2 inf", "nan"},
	} {
		wantFloat(t, funcs.Bucket(value(x.q), list(x.bounds), list(x.counts)), value(x.want), "the quantile", x.q, "of", x.bounds, "with", x.counts)
	}
}

// bucketModel is what the chapter says of a histogram, step by step.
func bucketModel(q float64, bounds, counts []float64) float64 {
	n := len(bounds)
	if n != len(counts) || n < 2 || bounds[n-1] != inf || q != q {
		return nan
	}
	for i := range n - 1 {
		if bounds[i] < bounds[i+1] {
			continue
		}
		return nan
	}
	if q < 0 {
		return negInf
	} else if q > 1 {
		return inf
	}
	high := make([]float64, n)
	for i, c := range counts {
		high[i] = c
		if i > 0 && c < high[i-1] {
			high[i] = high[i-1]
		}
	}
	if high[n-1] == 0 {
		return nan
	}
	r := times(q, high[n-1])
	i := slices.IndexFunc(high, func(c float64) bool { return c > r || c == r })
	switch {
	case i < 0:
		return nan
	case i == n-1:
		return bounds[n-2]
	case i > 0:
		share := by(less(r, high[i-1]), less(high[i], high[i-1]))
		return plus(bounds[i-1], times(less(bounds[i], bounds[i-1]), share))
	case bounds[0] > 0:
		return plus(0, times(less(bounds[0], 0), by(less(r, 0), less(high[0], 0))))
	}
	return bounds[0]
}

// P14.6, R6: many histograms, some of them not right.
func TestBucketModel(t *testing.T) {
	r := rand.New(rand.NewSource(146))
	answers := 0
	for range 30000 {
		n := r.Intn(7)
		bounds, counts := floats(r, n), floats(r, n)
		if r.Intn(4) > 0 {
			slices.Sort(bounds)
			bounds = slices.Compact(append(slices.DeleteFunc(bounds, math.IsNaN), inf))
			counts = floats(r, len(bounds))
			if r.Intn(2) == 0 {
				for i := range counts {
					counts[i] = float64(r.Intn(10) + 4*i)
				}
			}
		}
		q := []float64{0, 1, 0.5, r.Float64(), r.Float64(), r.Float64(), someFloat(r)}[r.Intn(7)]
		want := bucketModel(q, bounds, counts)
		if !math.IsNaN(want) {
			answers++
		}
		wantFloat(t, funcs.Bucket(q, bounds, counts), want, "the quantile", q, "of", bounds, "with", counts)
	}
	if answers < 10000 {
		t.Error("only", answers, "numbers")
	}
}
