package funcs

import (
	"cmp"
	"math"
	"slices"

	"vigil/api"
)

// Fold makes one number of several.
func Fold(name string, l []float64, arg float64) (float64, bool) {
	if len(l) == 0 {
		return 0, false
	}
	v := 0.0
	switch name {
	case "sum":
		v = sum(l)
	case "avg":
		v = average(l)
	case "min":
		v = foremost(l, "<")
	case "max":
		v = foremost(l, ">")
	case "count":
		v = float64(len(l))
	case "group":
		v = 1
	case "stdvar":
		v = variance(l)
	case "stddev":
		v = math.Sqrt(variance(l))
	case "quantile":
		v = Quantile(arg, l)
	case "last":
		v = l[len(l)-1]
	default:
		return 0, false
	}
	return plain(v), true
}

// Quantile is a quantile of numbers.
func Quantile(q float64, l []float64) float64 {
	switch {
	case len(l) == 0 || math.IsNaN(q):
		return math.NaN()
	case q < 0:
		return math.Inf(-1)
	case q > 1:
		return math.Inf(1)
	}
	l = slices.Clone(l)
	slices.SortStableFunc(l, cmp.Compare[float64])
	place := float64(q * float64(len(l)-1))
	below := math.Floor(place)
	i := int(below)
	k := min(i+1, len(l)-1)
	weight := place - below
	return float64(l[i]*(1-weight)) + float64(l[k]*weight)
}

// Sorted is series by their values.
func Sorted(l []api.Series, down bool) []api.Series {
	out := make([]api.Series, 0, len(l))
	for _, s := range l {
		out = append(out, api.Series{Labels: slices.Clone(s.Labels), Samples: slices.Clone(s.Samples)})
	}
	slices.SortStableFunc(out, func(a, b api.Series) int { return cmp.Compare(rank(b, down), rank(a, down)) })
	return out
}

// rank is greater for a series that stands further ahead. Either way NaN is the least for cmp, so that what has no rank is last.
func rank(s api.Series, down bool) float64 {
	switch {
	case len(s.Samples) == 0:
		return math.NaN()
	case down:
		return s.Samples[0].V
	}
	return -s.Samples[0].V
}

// sum goes in the order of the list, on which its rounding hangs.
func sum(l []float64) float64 {
	total := 0.0
	for _, v := range l {
		total += v
	}
	return total
}

// average is the sum by how many there are.
func average(l []float64) float64 { return sum(l) / float64(len(l)) }

// variance is the average of the squares of what the numbers are away from their average.
func variance(l []float64) float64 {
	middle := average(l)
	squares := make([]float64, 0, len(l))
	for _, v := range l {
		squares = append(squares, float64((v-middle)*(v-middle)))
	}
	return average(squares)
}

// foremost is the first number that none further on is ahead of, by that comparison; a NaN gives way to anything.
func foremost(l []float64, op string) float64 {
	out := l[0]
	for _, v := range l[1:] {
		if Holds(op, v, out) || math.IsNaN(out) {
			out = v
		}
	}
	return out
}
