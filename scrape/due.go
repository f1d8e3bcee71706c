package scrape

import (
	"iter"

	"vigil/api"
)

// Due is the last time at which a target was to be scraped.
func Due(t api.Target, interval, from, to int) (int, bool) {
	first, last, ok := span(from, to)
	if !ok || !isRemainder(t.Offset, interval) {
		return 0, false
	}
	back := apart(t.Offset, remainder(last, interval), interval)
	if back > last-first {
		return 0, false
	}
	return last - back, true
}

// Steps tells all times at which a target is to be scraped.
func Steps(t api.Target, interval, from, to int) iter.Seq[int] {
	// The target itself is not kept.
	offset := t.Offset
	return func(yield func(int) bool) {
		first, last, ok := span(from, to)
		if !ok || !isRemainder(offset, interval) {
			return
		}
		// What is still to go is held against what is left, since a sum of both might be too great for a number.
		for on := apart(remainder(first, interval), offset, interval); on <= last-first; on = interval {
			first += on
			if !yield(first) {
				return
			}
		}
	}
}

// span is the first and the last time above from and not above to; false, if there is none.
func span(from, to int) (first, last int, ok bool) {
	if from >= to {
		return 0, 0, false
	}
	first, last = max(from+1, -api.MaxTime), min(to, api.MaxTime)
	return first, last, first <= last
}

// isRemainder tells whether some time has that remainder; by an interval below 1 none has.
func isRemainder(n, interval int) bool { return 0 <= n && n < interval }

// remainder is that of n modulo interval, 0 or more.
func remainder(n, interval int) int {
	r := n % interval
	if r < 0 {
		r += interval
	}
	return r
}

// apart is how far it is from one remainder on to the next time that has the other one.
func apart(from, to, interval int) int {
	if to < from {
		return to - from + interval
	}
	return to - from
}
