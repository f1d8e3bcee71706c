package scrape

import (
	"math"
	"slices"
	"strings"

	"vigil/api"
	"vigil/expo"
	"vigil/labels"
)

// exportedPrefix stands ahead of the name of a line's label that gives way to the target's.
const exportedPrefix = "exported_"

// counts is what the target's own series say of a scrape.
type counts struct {
	up, scraped, kept, added int
}

// Stale is the marker of a series that has ended.
func Stale() float64 { return math.Float64frombits(api.StaleBits) }

// IsStale tells whether v is just that marker.
func IsStale(v float64) bool { return math.Float64bits(v) == api.StaleBits }

// Series is the point of a line; false, if it has none.
func Series(j api.Job, t api.Target, line api.Line) (api.Point, bool) {
	return point(j.Honor, readyRules(j.Metric), t, line)
}

// Batch is what a scrape comes to, and which series the next one will miss if it lacks them.
func Batch(j api.Job, t api.Target, now int, body []byte, before [][]api.Label) (batch []api.Point, now2 [][]api.Label, at int, e api.Errno) {
	lines, _, at, e := expo.Read(body, math.MaxInt)
	if e != api.OK {
		return nil, nil, at, e
	}
	rules := readyRules(j.Metric)
	for _, line := range lines {
		p, ok := point(j.Honor, rules, t, line)
		if !ok {
			continue
		}
		if !line.HasT {
			p.T = now
			now2 = append(now2, slices.Clone(p.Labels))
		}
		batch = append(batch, p)
	}
	if j.SampleLimit > 0 && len(batch) > j.SampleLimit {
		return nil, nil, 0, api.ErrLimit
	}
	now2 = eachOnce(now2)
	n := counts{up: 1, scraped: len(lines), kept: len(batch), added: len(lacking(now2, eachOnce(before)))}
	batch = append(batch, ends(lacking(before, now2), now)...)
	return append(batch, own(t, now, n)...), now2, 0, api.OK
}

// Failure is what a failed scrape comes to.
func Failure(j api.Job, t api.Target, now int, before [][]api.Label) []api.Point {
	return append(ends(before, now), own(t, now, counts{})...)
}

// point is the point of a line of that target.
func point(honor bool, rules []rule, t api.Target, line api.Line) (api.Point, bool) {
	set, ok := relabelled(joined(honor, line.Labels, t.Labels), rules)
	if !ok || labels.Get(set, metricLabel) == "" || !labels.Right(set) {
		return api.Point{}, false
	}
	p := api.Point{Labels: set, V: line.V}
	if line.HasT {
		p.T = line.T
	}
	return p, true
}

// joined is the labels of a line and those of its target as one new set.
func joined(honor bool, line, target []api.Label) []api.Label {
	if honor {
		target = slices.DeleteFunc(slices.Clone(target), func(x api.Label) bool { return has(line, x.Name) })
	} else {
		line = exported(line, target)
	}
	set := slices.Concat(line, target)
	slices.SortFunc(set, func(a, b api.Label) int { return strings.Compare(a.Name, b.Name) })
	return set
}

// exported is the line's labels, of which those that the target has too are called otherwise, or are left out.
func exported(line, target []api.Label) []api.Label {
	out := slices.Clone(line)
	for i := 0; i < len(out); {
		name, ok := out[i].Name, true
		if has(target, name) {
			name, ok = free(name, out, target)
		}
		if !ok {
			out = slices.Delete(out, i, i+1)
			continue
		}
		out[i].Name = name
		i++
	}
	return out
}

// free is the name with as many prefixes ahead of it, one at least, as it takes for neither list to have it; false, if it gets too long.
func free(name string, line, target []api.Label) (string, bool) {
	for {
		name = exportedPrefix + name
		if len(name) > api.MaxLabel {
			return "", false
		}
		if !has(line, name) && !has(target, name) {
			return name, true
		}
	}
}

// has tells whether a set has a label of that name.
func has(set []api.Label, name string) bool { return labels.Get(set, name) != "" }

// eachOnce is a new list of the sets, rising, each once.
func eachOnce(l [][]api.Label) [][]api.Label {
	out := slices.Clone(l)
	slices.SortFunc(out, labels.Compare)
	return slices.CompactFunc(out, func(a, b []api.Label) bool { return labels.Compare(a, b) == 0 })
}

// lacking is the sets of l that are not among others, which rise.
func lacking(l, others [][]api.Label) [][]api.Label {
	var out [][]api.Label
	for _, set := range l {
		if _, found := slices.BinarySearchFunc(others, set, labels.Compare); !found {
			out = append(out, set)
		}
	}
	return out
}

// ends is a stale point for each of the series.
func ends(l [][]api.Label, now int) []api.Point {
	var out []api.Point
	for _, set := range l {
		out = append(out, api.Point{Labels: slices.Clone(set), T: now, V: Stale()})
	}
	return out
}

// own is the points of the target's own series.
func own(t api.Target, now int, n counts) []api.Point {
	named := func(name string, v int) api.Point {
		return api.Point{Labels: put(slices.Clone(t.Labels), metricLabel, name), T: now, V: float64(v)}
	}
	return []api.Point{
		named("up", n.up),
		named("scrape_samples_scraped", n.scraped),
		named("scrape_samples_kept", n.kept),
		named("scrape_series_added", n.added),
	}
}
