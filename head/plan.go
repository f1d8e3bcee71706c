package head

import (
	"math"

	"vigil/api"
	"vigil/labels"
)

// outlook is a Head as it would be, had it taken some more points.
type outlook struct {
	head   *Head
	newest int
	lasts  map[string]api.Sample // of the series of these points, by their labels' bytes
}

// plan says whether a point would be taken, and takes it for taken if so.
func (o *outlook) plan(p api.Point) api.Errno {
	if !rightSet(p.Labels) {
		return api.ErrName
	}
	if p.T < -api.MaxTime || p.T > api.MaxTime {
		return api.ErrLarge
	}
	if p.T < horizon(o.newest, o.head.retention) {
		return api.ErrOld
	}
	key := string(labels.Bytes(p.Labels))
	if last, ok := o.last(key); ok {
		switch {
		case p.T < last.T:
			return api.ErrOld
		case p.T == last.T && math.Float64bits(p.V) == math.Float64bits(last.V):
			return api.ErrSame
		case p.T == last.T:
			return api.ErrTwice
		}
	}
	o.lasts[key] = api.Sample{T: p.T, V: p.V}
	o.newest = max(o.newest, p.T)
	return api.OK
}

// last is the last sample that the series would have.
func (o *outlook) last(key string) (api.Sample, bool) {
	if x, ok := o.lasts[key]; ok {
		return x, true
	}
	if s := o.head.series[key]; s != nil {
		return s.last(), true
	}
	return api.Sample{}, false
}

// planned is the points of a batch that are taken.
func (h *Head) planned(batch []api.Point) []api.Point {
	var out []api.Point
	for i, e := range h.Plan(batch) {
		if e == api.OK {
			out = append(out, batch[i])
		}
	}
	return out
}
