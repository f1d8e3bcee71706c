package head

import (
	"iter"
	"slices"
	"sort"

	"vigil/api"
	"vigil/labels"
)

// piece is the samples of a series from one number to below another.
type piece struct{ from, to int }

// series is a label set and its samples. What stands in its lists is never changed where it stands, so that a copy of a series goes on to tell what was there when it was made.
type series struct {
	labels  []api.Label
	samples []api.Sample
	gone    []piece // what is deleted, rising, never empty, with a sample between any two that is not
}

// last is the sample of the greatest time; there always is one.
func (s *series) last() api.Sample { return s.samples[len(s.samples)-1] }

// below is how many samples are ahead of a time.
func (s *series) below(t int) int {
	return sort.Search(len(s.samples), func(i int) bool { return s.samples[i].T >= t })
}

// between is the samples from one time to another, this one too.
func (s *series) between(mint, maxt int) piece {
	to := sort.Search(len(s.samples), func(i int) bool { return s.samples[i].T > maxt })
	return fromTo(s.below(mint), to)
}

// fromTo is the piece of those ends, empty if they are the wrong way about.
func fromTo(from, to int) piece { return piece{from: from, to: max(from, to)} }

// deleted tells the pieces of p that are deleted; p is not empty.
func (s *series) deleted(p piece) iter.Seq[piece] {
	return func(yield func(piece) bool) {
		first := sort.Search(len(s.gone), func(i int) bool { return s.gone[i].to > p.from })
		for _, x := range s.gone[first:] {
			if x.from >= p.to || !yield(piece{from: max(x.from, p.from), to: min(x.to, p.to)}) {
				return
			}
		}
	}
}

// standing tells the pieces of p that are not deleted.
func (s *series) standing(p piece) iter.Seq[piece] {
	return func(yield func(piece) bool) {
		at := p.from
		for x := range s.deleted(p) {
			if at < x.from && !yield(piece{from: at, to: x.from}) {
				return
			}
			at = x.to
		}
		if at < p.to {
			yield(piece{from: at, to: p.to})
		}
	}
}

// shows tells whether a sample of p is not deleted.
func (s *series) shows(p piece) bool {
	for range s.standing(p) {
		return true
	}
	return false
}

// told is the series with those samples of p that are not deleted.
func (s *series) told(p piece) api.Series {
	var samples []api.Sample
	for x := range s.standing(p) {
		samples = append(samples, s.samples[x.from:x.to]...)
	}
	return api.Series{Labels: slices.Clone(s.labels), Samples: samples}
}

// bury deletes the samples of p.
func (s *series) bury(p piece) {
	if p.from == p.to {
		return
	}
	// Pieces that p meets, or stands close behind or ahead of, become one with it.
	first := sort.Search(len(s.gone), func(i int) bool { return s.gone[i].to >= p.from })
	behind := sort.Search(len(s.gone), func(i int) bool { return s.gone[i].from > p.to })
	if first == len(s.gone) {
		s.gone = append(s.gone, p)
		return
	}
	if first < behind {
		p.from = min(p.from, s.gone[first].from)
		p.to = max(p.to, s.gone[behind-1].to)
	}
	s.gone = slices.Concat(s.gone[:first], []piece{p}, s.gone[behind:])
}

// drop forgets the first n samples.
func (s *series) drop(n int) {
	if n == 0 {
		return
	}
	s.samples = slices.Clone(s.samples[n:])
	var gone []piece
	for _, x := range s.gone {
		if x.to > n {
			gone = append(gone, piece{from: max(x.from-n, 0), to: x.to - n})
		}
	}
	s.gone = gone
}

// byLabels orders series by their labels.
func byLabels(a, b *series) int { return labels.Compare(a.labels, b.labels) }
