package head_test

import (
	"math"
	"math/big"
	"regexp"
	"slices"
	"strconv"
	"strings"
	"testing"

	"vigil/api"
	"vigil/head"
	"vigil/labels"
)

// A model of the chapter's words: every sample with a mark, everything found by going through all of it.

type marked struct {
	api.Sample
	gone bool
}

type modelSeries struct {
	labels  []api.Label
	samples []marked
}

type model struct {
	retention, newest int
	series            []*modelSeries // rising by labels
}

func newModel(retention int) *model {
	return &model{retention: max(retention, 0), newest: -api.MaxTime - 1}
}

func (m *model) clone() *model {
	out := &model{retention: m.retention, newest: m.newest}
	for _, s := range m.series {
		out.series = append(out.series, &modelSeries{labels: s.labels, samples: slices.Clone(s.samples)})
	}
	return out
}

func (m *model) horizon() int {
	x := big.NewInt(int64(m.newest))
	x.Sub(x, big.NewInt(int64(m.retention)))
	if least := big.NewInt(-api.MaxTime - 1); x.Cmp(least) < 0 {
		x = least
	}
	return int(x.Int64())
}

func (m *model) find(l []api.Label) *modelSeries {
	for _, s := range m.series {
		if labels.Compare(s.labels, l) == 0 {
			return s
		}
	}
	return nil
}

func rightLabels(l []api.Label) bool {
	made, e := labels.New(l)
	return e == api.OK && len(l) > 0 && slices.Equal(made, l)
}

func (m *model) take(l []api.Label, x api.Sample) {
	s := m.find(l)
	if s == nil {
		s = &modelSeries{labels: slices.Clone(l)}
		m.series = append(m.series, s)
		slices.SortFunc(m.series, func(a, b *modelSeries) int { return labels.Compare(a.labels, b.labels) })
	}
	s.samples = append(s.samples, marked{Sample: x})
	m.newest = max(m.newest, x.T)
}

func (m *model) judge(p api.Point) api.Errno {
	if !rightLabels(p.Labels) {
		return api.ErrName
	}
	if p.T < -api.MaxTime || p.T > api.MaxTime {
		return api.ErrLarge
	}
	if p.T < m.horizon() {
		return api.ErrOld
	}
	if s := m.find(p.Labels); s != nil {
		last := s.samples[len(s.samples)-1]
		if p.T < last.T {
			return api.ErrOld
		}
		if p.T == last.T && math.Float64bits(p.V) == math.Float64bits(last.V) {
			return api.ErrSame
		}
		if p.T == last.T {
			return api.ErrTwice
		}
	}
	return api.OK
}

// commit takes a batch, and tells what Plan must have said of it.
func (m *model) commit(batch []api.Point) []api.Errno {
	var out []api.Errno
	for _, p := range batch {
		e := m.judge(p)
		if e == api.OK {
			m.take(p.Labels, api.Sample{T: p.T, V: p.V})
		}
		out = append(out, e)
	}
	return out
}

func modelMeans(m api.Matcher, l []api.Label) bool {
	value := ""
	for _, x := range l {
		if x.Name == m.Name {
			value = x.Value
		}
	}
	switch m.Kind {
	case api.Equal:
		return value == m.Value
	case api.NotEqual:
		return value != m.Value
	}
	return regexp.MustCompile("^(?s:"+m.Value+")$").MatchString(value) == (m.Kind == api.Match)
}

func (m *model) meant(ms []api.Matcher) []*modelSeries {
	var out []*modelSeries
	for _, s := range m.series {
		if !slices.ContainsFunc(ms, func(x api.Matcher) bool { return !modelMeans(x, s.labels) }) {
			out = append(out, s)
		}
	}
	return out
}

func (s *modelSeries) told(mint, maxt int, gone bool) []api.Sample {
	var out []api.Sample
	for _, x := range s.samples {
		if x.T >= mint && x.T <= maxt && (gone || !x.gone) {
			out = append(out, x.Sample)
		}
	}
	return out
}

func (m *model) selected(ms []api.Matcher, mint, maxt int) []api.Series {
	var out []api.Series
	for _, s := range m.meant(ms) {
		if l := s.told(max(mint, m.horizon()), maxt, false); len(l) > 0 {
			out = append(out, api.Series{Labels: s.labels, Samples: l})
		}
	}
	return out
}

func (m *model) names() []string {
	var out []string
	for _, s := range m.selected(nil, math.MinInt, math.MaxInt) {
		for _, x := range s.Labels {
			out = append(out, x.Name)
		}
	}
	slices.Sort(out)
	return slices.Compact(out)
}

func (m *model) values(name string) []string {
	var out []string
	for _, s := range m.selected(nil, math.MinInt, math.MaxInt) {
		if v := labels.Get(s.Labels, name); v != "" {
			out = append(out, v)
		}
	}
	slices.Sort(out)
	return slices.Compact(out)
}

func (s *modelSeries) bury(mint, maxt int) {
	for i, x := range s.samples {
		if x.T >= mint && x.T <= maxt {
			s.samples[i].gone = true
		}
	}
}

func (m *model) delete(ms []api.Matcher, mint, maxt int) []api.Gone {
	var out []api.Gone
	for _, s := range m.meant(ms) {
		if len(s.told(mint, maxt, true)) > 0 {
			out = append(out, api.Gone{Labels: s.labels, Min: mint, Max: min(maxt, s.samples[len(s.samples)-1].T)})
		}
		s.bury(mint, maxt)
	}
	return out
}

func (m *model) buryAll(l []api.Gone) {
	for _, x := range l {
		if s := m.find(x.Labels); s != nil {
			s.bury(x.Min, x.Max)
		}
	}
}

func (m *model) cut(mint, maxt int) (out []api.Series, gone []api.Gone) {
	if maxt == math.MinInt {
		return nil, nil
	}
	for _, s := range m.series {
		if l := s.told(mint, maxt-1, true); len(l) > 0 {
			out = append(out, api.Series{Labels: s.labels, Samples: l})
		}
		open := false
		for _, x := range s.samples {
			if x.T < mint || x.T >= maxt {
				continue
			}
			switch {
			case x.gone && open:
				gone[len(gone)-1].Max = x.T
			case x.gone:
				gone = append(gone, api.Gone{Labels: s.labels, Min: x.T, Max: x.T})
			}
			open = x.gone
		}
	}
	return out, gone
}

func (m *model) drop(before int) int {
	count := 0
	for _, s := range m.series {
		last := len(s.samples) - 1
		var kept []marked
		for i, x := range s.samples {
			if x.T >= before || i == last {
				kept = append(kept, x)
			}
		}
		count += len(s.samples) - len(kept)
		s.samples = kept
	}
	return count
}

func (m *model) load(l []api.Series, gone []api.Gone) {
	for _, x := range l {
		if !rightLabels(x.Labels) {
			continue
		}
		for i, y := range x.Samples {
			if y.T < -api.MaxTime || y.T > api.MaxTime || i > 0 && y.T <= x.Samples[i-1].T {
				break
			}
			if s := m.find(x.Labels); s == nil || y.T > s.samples[len(s.samples)-1].T {
				m.take(x.Labels, y)
			}
		}
	}
	m.buryAll(gone)
}

func (m *model) all() []api.Series {
	var out []api.Series
	for _, s := range m.series {
		out = append(out, api.Series{Labels: s.labels, Samples: s.told(math.MinInt, math.MaxInt, false)})
	}
	return out
}

func (m *model) count() (series, samples int) {
	for _, s := range m.series {
		samples += len(s.samples)
	}
	return len(m.series), samples
}

// Writing what is told, by bits, so that two of it can be held against each other.

func spelt(l []api.Series) string {
	var out strings.Builder
	for _, s := range l {
		out.WriteString(labels.Text(s.Labels))
		for _, x := range s.Samples {
			out.WriteString(" " + strconv.Itoa(x.T) + ":" + strconv.FormatUint(math.Float64bits(x.V), 16))
		}
		out.WriteString("\n")
	}
	return out.String()
}

func speltGone(l []api.Gone) string {
	var out strings.Builder
	for _, x := range l {
		out.WriteString(labels.Text(x.Labels) + " " + strconv.Itoa(x.Min) + " " + strconv.Itoa(x.Max) + "\n")
	}
	return out.String()
}

// told is what All tells.
func told(h *head.Head) []api.Series {
	var out []api.Series
	for s := range h.All() {
		out = append(out, s)
	}
	return out
}

func selected(t *testing.T, h *head.Head, ms []api.Matcher, mint, maxt int) []api.Series {
	t.Helper()
	l, e := h.Select(ms, mint, maxt)
	if e != api.OK {
		t.Fatalf("Select %v: %d", ms, e)
	}
	return l
}

// wantSame asks all that a Head tells of its content.
func wantSame(t *testing.T, h *head.Head, m *model) {
	t.Helper()
	if h.Newest() != m.newest || h.Horizon() != m.horizon() {
		t.Fatalf("Newest %d, Horizon %d, want %d, %d", h.Newest(), h.Horizon(), m.newest, m.horizon())
	}
	if got, want := spelt(told(h)), spelt(m.all()); got != want {
		t.Fatalf("All:\n%s, want\n%s", got, want)
	}
	if got, want := spelt(selected(t, h, nil, math.MinInt, math.MaxInt)), spelt(m.selected(nil, math.MinInt, math.MaxInt)); got != want {
		t.Fatalf("Select:\n%s, want\n%s", got, want)
	}
	if series, samples := h.Count(); true {
		if x, y := m.count(); x != series || y != samples {
			t.Fatalf("Count %d, %d, want %d, %d", series, samples, x, y)
		}
	}
	wantCut(t, h, m, math.MinInt, math.MaxInt)
	if got, want := h.Names(), m.names(); !slices.Equal(got, want) {
		t.Fatalf("Names %q, want %q", got, want)
	}
	for _, name := range []string{"a", "b", "c", "__name__", "d", ""} {
		if got, want := h.Values(name), m.values(name); !slices.Equal(got, want) {
			t.Fatalf("Values of %q: %q, want %q", name, got, want)
		}
	}
	for _, s := range m.series {
		last := s.samples[len(s.samples)-1]
		if got, ok := h.Last(s.labels); !ok || got.T != last.T || math.Float64bits(got.V) != math.Float64bits(last.V) {
			t.Fatalf("Last of %v: %v, %t, want %v", s.labels, got, ok, last)
		}
	}
}

func wantCut(t *testing.T, h *head.Head, m *model, mint, maxt int) {
	t.Helper()
	l, gone := h.Cut(mint, maxt)
	x, y := m.cut(mint, maxt)
	if spelt(l) != spelt(x) || speltGone(gone) != speltGone(y) {
		t.Fatalf("Cut %d to %d:\n%s%s, want\n%s%s", mint, maxt, spelt(l), speltGone(gone), spelt(x), speltGone(y))
	}
}

// draws is a row of numbers without a source of chance.
type draws uint64

func (d *draws) below(n int) int {
	*d = *d*6364136223846793005 + 1442695040888963407
	return int(uint64(*d)>>33) % n
}

func pick[T any](d *draws, l ...T) T { return l[d.below(len(l))] }

func (d *draws) set() []api.Label {
	var l []api.Label
	for _, name := range []string{"__name__", "a", "b", "c"} {
		if v := pick(d, "", "", "x", "y", "xy"); v != "" {
			l = append(l, api.Label{Name: name, Value: v})
		}
	}
	return l
}

// world says which times are drawn: from low on, span many.
type world struct{ low, span int }

func (d *draws) time(w world) int {
	if d.below(40) == 0 {
		return pick(d, math.MinInt, math.MaxInt, -api.MaxTime, api.MaxTime, -api.MaxTime-1, api.MaxTime+1)
	}
	return w.low + d.below(w.span)
}

// sampleTime is a time that ends no row of samples for good.
func (d *draws) sampleTime(w world) int {
	if d.below(60) == 0 {
		return pick(d, math.MinInt, math.MaxInt, -api.MaxTime-1, api.MaxTime+1)
	}
	return w.low + d.below(w.span)
}

func (d *draws) value() float64 {
	return pick(d, 0, math.Copysign(0, -1), 1, 2.5, math.NaN(), math.Inf(1), math.Float64frombits(api.StaleBits), math.Float64frombits(0xfff8000000000007))
}

func (d *draws) batch(w world) []api.Point {
	var out []api.Point
	for range d.below(12) {
		p := api.Point{Labels: d.set(), T: d.sampleTime(w), V: d.value()}
		if d.below(30) == 0 {
			p.Labels = pick(d, nil, []api.Label{{Name: "b", Value: "x"}, {Name: "a", Value: "x"}}, []api.Label{{Name: "a"}}, []api.Label{{Name: "1", Value: "x"}})
		}
		out = append(out, p)
	}
	if len(out) > 0 && d.below(3) == 0 {
		out = append(out, pick(d, out...))
	}
	return out
}

func (d *draws) matchers() []api.Matcher {
	var out []api.Matcher
	for range d.below(4) {
		m := api.Matcher{Kind: 1 + d.below(4), Name: pick(d, "__name__", "a", "b", "c", "d", ""), Value: pick(d, "", "x", "y", "xy", "z")}
		if m.Kind == api.Match || m.Kind == api.NotMatch {
			m.Value = pick(d, "", "x", "x|y", ".*", ".+", "x?y?", "[^x].*", "z")
		}
		out = append(out, m)
	}
	return out
}

func (d *draws) gone(w world) []api.Gone {
	var out []api.Gone
	for range d.below(6) {
		out = append(out, api.Gone{Labels: d.set(), Min: d.time(w), Max: d.time(w)})
	}
	return out
}

func (d *draws) series(w world) []api.Series {
	var out []api.Series
	for range d.below(5) {
		s := api.Series{Labels: d.set()}
		for range d.below(8) {
			s.Samples = append(s.Samples, api.Sample{T: d.sampleTime(w), V: d.value()})
		}
		if d.below(4) > 0 {
			slices.SortFunc(s.Samples, func(a, b api.Sample) int { return min(1, max(-1, a.T/2-b.T/2)) })
		}
		out = append(out, s)
	}
	return out
}

// step does one thing to both, and holds what is answered against each other.
func step(t *testing.T, d *draws, w world, h *head.Head, m *model) {
	t.Helper()
	switch d.below(10) {
	case 0:
		ms, mint, maxt := d.matchers(), d.time(w), d.time(w)
		got, e := h.Delete(ms, mint, maxt)
		if want := m.delete(ms, mint, maxt); e != api.OK || speltGone(got) != speltGone(want) {
			t.Fatalf("Delete %v, %d to %d: %d\n%s, want\n%s", ms, mint, maxt, e, speltGone(got), speltGone(want))
		}
	case 1:
		l := d.gone(w)
		h.Bury(l)
		m.buryAll(l)
	case 2:
		before := d.time(w) - d.below(w.span)
		if got, want := h.Drop(before), m.drop(before); got != want {
			t.Fatalf("Drop %d: %d, want %d", before, got, want)
		}
	case 3:
		l, gone := d.series(w), d.gone(w)
		h.Load(l, gone)
		m.load(l, gone)
	case 4:
		batch := d.batch(w)
		raw := h.Record(batch)
		m.commit(batch)
		if e := h.Replay(raw); e != api.OK {
			t.Fatalf("Replay of a Record: %d", e)
		}
	default:
		batch := d.batch(w)
		plan := h.Plan(batch)
		want := m.commit(batch)
		if !slices.Equal(plan, want) || !slices.Equal(h.Plan(batch), want) {
			t.Fatalf("Plan %v, want %v, of %v", plan, want, batch)
		}
		n := 0
		for _, e := range want {
			if e == api.OK {
				n++
			}
		}
		if got := h.Commit(batch); got != n {
			t.Fatalf("Commit: %d, want %d", got, n)
		}
	}
}

// P7.1 to P7.7: long rows of calls, against the model.
func TestModel(t *testing.T) {
	retentions := []int{0, -1, 1, 5, 20, 100, 1 << 40, math.MaxInt, math.MinInt, api.MaxTime, 2 * api.MaxTime, 2*api.MaxTime + 1}
	for seed := range 120 {
		d := draws(seed)
		retention := retentions[seed%len(retentions)]
		h, m := head.New(retention), newModel(retention)
		wantSame(t, h, m)
		w := world{low: pick(&d, 0, -50, api.MaxTime-400, -api.MaxTime-20), span: 30}
		for range 60 {
			step(t, &d, w, h, m)
			wantSame(t, h, m)
			ms, mint, maxt := d.matchers(), d.time(w), d.time(w)
			if got, want := spelt(selected(t, h, ms, mint, maxt)), spelt(m.selected(ms, mint, maxt)); got != want {
				t.Fatalf("Select %v, %d to %d:\n%s, want\n%s", ms, mint, maxt, got, want)
			}
			wantCut(t, h, m, mint, maxt)
			w.low += d.below(4)
		}
	}
}
