package funcs

import "math"

// Bucket is a quantile of a histogram.
func Bucket(q float64, bounds, counts []float64) float64 {
	switch {
	case len(counts) != len(bounds) || !reachAll(bounds) || math.IsNaN(q):
		return math.NaN()
	case q < 0:
		return math.Inf(-1)
	case q > 1:
		return math.Inf(1)
	}
	counts = neverFalling(counts)
	total := counts[len(counts)-1]
	if total == 0 {
		return math.NaN()
	}
	place := float64(q * total)
	for i, count := range counts {
		if count >= place {
			return inBucket(i, place, bounds, counts)
		}
	}
	// No count has the place where they are NaN or below 0: there is no such quantile.
	return math.NaN()
}

// inBucket is where the place is in the i-th bucket, whose observations are taken for evenly spread; those of the last one have no bound to spread to.
func inBucket(i int, place float64, bounds, counts []float64) float64 {
	switch {
	case i == len(bounds)-1:
		return bounds[i-1]
	case i == 0 && !(bounds[0] > 0):
		return bounds[0]
	}
	low, before := 0.0, 0.0
	if i > 0 {
		low, before = bounds[i-1], counts[i-1]
	}
	return low + float64((bounds[i]-low)*((place-before)/(counts[i]-before)))
}

// reachAll tells whether the bounds, two at least, rise to +Inf, so that each number has a bucket.
func reachAll(bounds []float64) bool {
	for i := 1; i < len(bounds); i++ {
		if !(bounds[i-1] < bounds[i]) {
			return false
		}
	}
	return len(bounds) >= 2 && math.IsInf(bounds[len(bounds)-1], 1)
}

// neverFalling is new counts, of which those that are less than the one ahead are as that one.
func neverFalling(counts []float64) []float64 {
	out := make([]float64, 0, len(counts))
	for i, count := range counts {
		if i > 0 && count < out[i-1] {
			count = out[i-1]
		}
		out = append(out, count)
	}
	return out
}
