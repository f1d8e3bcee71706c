package funcs

import (
	"iter"
	"math"
	"slices"
	"strings"

	"vigil/api"
)

// Over is a function of a window's samples.
func Over(name string, l []api.Sample, arg float64, from, to int) (float64, bool) {
	l = within(l, from, to)
	if len(l) == 0 {
		return 0, false
	}
	switch name {
	case "avg_over_time", "sum_over_time", "min_over_time", "max_over_time", "count_over_time", "last_over_time",
		"stddev_over_time", "stdvar_over_time", "quantile_over_time":
		return Fold(strings.TrimSuffix(name, "_over_time"), values(l), arg)
	case "present_over_time":
		return 1, true
	case "changes":
		return float64(pairs(l, changed)), true
	case "resets":
		return float64(pairs(l, fallen)), true
	}
	if len(l) < 2 {
		return 0, false
	}
	ahead, last := l[len(l)-2], l[len(l)-1]
	switch name {
	case "irate":
		return growth(ahead.V, last.V) / seconds(ahead.T, last.T), true
	case "idelta":
		return last.V - ahead.V, true
	case "delta":
		return difference(l) * stretch(l, math.Inf(1), from, to), true
	case "increase":
		d := increase(l)
		return d * stretch(l, sinceNought(l, d), from, to), true
	case "rate":
		d := increase(l)
		return d * (stretch(l, sinceNought(l, d), from, to) / seconds(from, to)), true
	}
	return 0, false
}

// Rate tells how a counter grows.
func Rate(l []api.Sample) iter.Seq2[int, float64] {
	// The iterator may outlive the call, and what is handed in is not kept.
	l = slices.DeleteFunc(slices.Clone(l), func(x api.Sample) bool { return ended(x.V) })
	return func(yield func(int, float64) bool) {
		for i := 1; i < len(l); i++ {
			if !yield(l[i].T, growth(l[i-1].V, l[i].V)) {
				return
			}
		}
	}
}

// within is the samples of the window, without the marks of ends.
func within(l []api.Sample, from, to int) []api.Sample {
	var out []api.Sample
samples:
	for _, x := range l {
		switch {
		case x.T <= from || x.T > to:
			continue samples
		case ended(x.V):
			continue samples
		}
		out = append(out, x)
	}
	return out
}

// ended tells whether v marks that a series has ended.
func ended(v float64) bool { return math.Float64bits(v) == api.StaleBits }

// values is what the samples say.
func values(l []api.Sample) []float64 {
	out := make([]float64, 0, len(l))
	for _, x := range l {
		out = append(out, x.V)
	}
	return out
}

// pairs is how many samples stand to the one ahead of them as is asked.
func pairs(l []api.Sample, asked func(ahead, v float64) bool) int {
	count := 0
	for i := 1; i < len(l); i++ {
		if asked(l[i-1].V, l[i].V) {
			count++
		}
	}
	return count
}

// changed tells whether a value is another one than the one ahead of it.
func changed(ahead, v float64) bool {
	return v != ahead && !(math.IsNaN(v) && math.IsNaN(ahead))
}

// fallen tells whether a counter began anew, since it never falls else.
func fallen(ahead, v float64) bool { return v < ahead }

// growth is how much a counter grew, from 0 on if it began anew.
func growth(ahead, v float64) float64 {
	if fallen(ahead, v) {
		return v
	}
	return v - ahead
}

// difference is what the last value is above the first.
func difference(l []api.Sample) float64 { return l[len(l)-1].V - l[0].V }

// increase is the difference, and whatever the counter had lost each time it began anew.
func increase(l []api.Sample) float64 {
	d := difference(l)
	for i := 1; i < len(l); i++ {
		if fallen(l[i-1].V, l[i].V) {
			d += l[i-1].V
		}
	}
	return d
}

// sinceNought is for how many seconds ahead of its first sample a counter that grew by d can have been growing as it did, since it was not below 0.
func sinceNought(l []api.Sample, d float64) float64 {
	if !(d > 0 && l[0].V >= 0) {
		return math.Inf(1)
	}
	return float64(covered(l) * (l[0].V / d))
}

// stretch is how many times as long the samples would be, if they reached to the ends of their window: half a step there, where an end is further away than about a step; ahead of the first one no more than most seconds.
func stretch(l []api.Sample, most float64, from, to int) float64 {
	whole := covered(l)
	step := whole / float64(len(l)-1)
	reach := func(length float64) float64 {
		if length < float64(step*1.1) {
			return length
		}
		return step / 2
	}
	begin := seconds(from, l[0].T)
	if most < begin {
		begin = most
	}
	length := whole + reach(begin)
	length += reach(seconds(l[len(l)-1].T, to))
	return length / whole
}

// covered is how many seconds are between the first sample and the last.
func covered(l []api.Sample) float64 { return seconds(l[0].T, l[len(l)-1].T) }

// seconds is how long it is from one time to another, whose difference may be more than an int holds.
func seconds(from, to int) float64 {
	if to < from {
		return -seconds(to, from)
	}
	return float64(uint64(to)-uint64(from)) / 1000
}
