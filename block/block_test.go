package block_test

import (
	"fmt"
	"math"
	"slices"
	"strings"
	"testing"

	"vigil/api"
	"vigil/block"
	"vigil/disk"
	"vigil/head"
	"vigil/labels"
)

const room = 1 << 22

// pack is what a block is made of.
type pack struct {
	meta   api.Meta
	series []api.Series
	gone   []api.Gone
}

// spelt writes all of it, so that nothing can be taken for anything else.
func (p pack) spelt() string {
	var out strings.Builder
	fmt.Fprintf(&out, "%q %d %d %d\n", p.meta.Name, p.meta.Min, p.meta.Max, p.meta.Level)
	out.WriteString(speltSeries(p.series))
	for _, x := range p.gone {
		fmt.Fprintf(&out, "gone %q %d %d\n", x.Labels, x.Min, x.Max)
	}
	return out.String()
}

func speltSeries(l []api.Series) string {
	var out strings.Builder
	for _, s := range l {
		fmt.Fprintf(&out, "%q", s.Labels)
		for _, x := range s.Samples {
			fmt.Fprintf(&out, " %d:%x", x.T, math.Float64bits(x.V))
		}
		out.WriteString("\n")
	}
	return out.String()
}

// set reads labels like "a=1 b=2"; of an empty text none.
func set(text string) []api.Label {
	var out []api.Label
	for _, word := range strings.Fields(text) {
		name, value, _ := strings.Cut(word, "=")
		out = append(out, api.Label{Name: name, Value: value})
	}
	return out
}

// row is a series of those labels, with a sample at each of those times.
func row(text string, times ...int) api.Series {
	s := api.Series{Labels: set(text)}
	for i, t := range times {
		s.Samples = append(s.Samples, api.Sample{T: t, V: float64(i) + 0.5})
	}
	return s
}

// long is a series of so many samples.
func long(text string, n int) api.Series {
	s := api.Series{Labels: set(text)}
	for i := range n {
		s.Samples = append(s.Samples, api.Sample{T: 7 * i, V: math.Sqrt(float64(i))})
	}
	return s
}

// small is the block of the chapter's runs, with something gone.
func small(name string) pack {
	return pack{
		meta:   api.Meta{Name: name, Min: 0, Max: 100},
		series: []api.Series{row("a=1", 5, 7), row("a=2", 99)},
		gone:   []api.Gone{{Labels: set("a=2"), Min: 6, Max: 9}, {Labels: set("a=1"), Min: -4, Max: 2}},
	}
}

// large is a block of several chunks and pages.
func large(name string) pack {
	return pack{
		meta:   api.Meta{Name: name, Min: -50, Max: 1 << 20, Level: 2},
		series: []api.Series{row("", -50, 3), long("__name__=up job=node", 300), row("a=1 b=2", 4), long("b=2", 121)},
		gone:   []api.Gone{{Min: 1, Max: 1}, {Labels: set("b=2"), Min: math.MinInt, Max: math.MaxInt}, {Labels: set("b=2"), Min: 3, Max: 4}},
	}
}

func want(t *testing.T, got, e api.Errno) {
	t.Helper()
	if got != e {
		t.Fatalf("answered %d, want %d", got, e)
	}
}

func wantList(t *testing.T, d *disk.Disk, names ...string) {
	t.Helper()
	if got := block.List(d); !slices.Equal(got, names) {
		t.Fatalf("List: %q, want %q", got, names)
	}
}

func write(d *disk.Disk, p pack) api.Errno { return block.Write(d, p.meta, p.series, p.gone) }

// put writes what must be OK.
func put(t *testing.T, d *disk.Disk, l ...pack) {
	t.Helper()
	for _, p := range l {
		want(t, write(d, p), api.OK)
		reads(t, d, p)
	}
}

// told is all that a Block says of itself.
func told(b *block.Block) pack {
	return pack{meta: b.Meta(), series: b.Series(), gone: b.Gone()}
}

// reads opens a block that must be as it was written.
func reads(t *testing.T, d *disk.Disk, p pack) *block.Block {
	t.Helper()
	b, e := block.Open(d, p.meta.Name)
	want(t, e, api.OK)
	wantTold(t, b, p)
	return b
}

func wantTold(t *testing.T, b *block.Block, p pack) {
	t.Helper()
	if got := told(b); got.spelt() != p.spelt() {
		t.Fatalf("told: %.500s, want %.500s", got.spelt(), p.spelt())
	}
	if got := speltSeries(slices.Collect(b.All())); got != speltSeries(p.series) {
		t.Fatalf("All: %.500s, want %.500s", got, speltSeries(p.series))
	}
}

// refused asks that there is no block, and that error.
func refused(t *testing.T, d *disk.Disk, name string, e api.Errno) {
	t.Helper()
	b, got := block.Open(d, name)
	if b != nil {
		t.Fatal("a block beside an error")
	}
	want(t, got, e)
}

// P8.1 to P8.4: the table Runs, and the Examples.
func TestRuns(t *testing.T) {
	d := disk.New(room)
	p := pack{meta: api.Meta{Name: "b1", Max: 100}, series: []api.Series{{Labels: set("a=1"), Samples: []api.Sample{{T: 5, V: 1}, {T: 7, V: 2}}}}}
	put(t, d, p)
	want(t, write(d, p), api.ErrThere)
	refused(t, d, "b2", api.ErrNone)
	want(t, block.Remove(d, "b1"), api.OK)
	wantList(t, d)
	for _, wrong := range []pack{
		{meta: p.meta, series: []api.Series{row("a=1", 100)}},
		{meta: p.meta, series: []api.Series{row("a=2", 1), row("a=1", 1)}},
		{meta: api.Meta{Name: "b1", Min: 5, Max: 5}},
	} {
		want(t, write(d, wrong), api.ErrArg)
	}
	put(t, d, pack{meta: api.Meta{Name: "none", Min: -5, Max: 5, Level: 3}}, small("b1"))
	wantList(t, d, "b1", "none")
	want(t, block.Remove(d, "b1"), api.OK)
	reads(t, d, pack{meta: api.Meta{Name: "none", Min: -5, Max: 5, Level: 3}})
}

// P8.1, P8.2: what is refused without a disk, and in which order.
func TestRefusals(t *testing.T) {
	p := small("b1")
	want(t, write(nil, p), api.ErrArg)
	refused(t, nil, "b1", api.ErrArg)
	refused(t, nil, "", api.ErrArg)
	want(t, block.Remove(nil, "b1"), api.ErrNone)
	wantList(t, nil)

	d := disk.New(room)
	put(t, d, p)
	ops, used := d.Ops(), d.Used()
	wrong := p
	wrong.meta.Level = -1
	want(t, write(d, wrong), api.ErrArg)
	want(t, write(d, p), api.ErrThere)
	want(t, write(d, pack{meta: api.Meta{Name: "b1", Min: 50, Max: 60, Level: 1}}), api.ErrThere)
	for _, name := range []string{"", "b", "b2", "b11", "B1", "b1/", "b1/block-whole", "/", "wal", strings.Repeat("b", 25), strings.Repeat("b", 1000), "\xff", "a b"} {
		refused(t, d, name, api.ErrNone)
		want(t, block.Remove(d, name), api.ErrNone)
	}
	d.Stop(0)
	want(t, write(d, wrong), api.ErrArg)
	want(t, write(d, p), api.ErrThere)
	want(t, block.Remove(d, "b2"), api.ErrNone)
	wantList(t, d, "b1")
	reads(t, d, p)
	if d.Ops() != ops || d.Used() != used {
		t.Fatal("refused calls, Open or List have done operations")
	}
	want(t, write(d, small("b2")), api.ErrDead)
	want(t, block.Remove(d, "b1"), api.ErrDead)
	wantList(t, d, "b1")
}

// P8.2: names come rising by their bytes, whatever the order of their writing.
func TestList(t *testing.T) {
	names := []string{"b", "a9", "a", "0", "a0", "z", "aa", "az", "abcdefghijklmnopqrstuvwx", "9", "a00", "wal", "b1", "00", "block"}
	d := disk.New(room)
	for i, name := range names {
		put(t, d, small(name))
		sorted := slices.Sorted(slices.Values(names[:i+1]))
		wantList(t, d, sorted...)
	}
	for i, name := range names {
		want(t, block.Remove(d, name), api.OK)
		refused(t, d, name, api.ErrNone)
		wantList(t, d, slices.Sorted(slices.Values(names[i+1:]))...)
	}
	if files := d.List(""); len(files) > 0 || d.Used() != 0 {
		t.Fatal("left behind", files)
	}
}

// The names of a block's files begin with its name and a slash.
func TestFileNames(t *testing.T) {
	for _, name := range []string{"a", "b1", "wal", "abcdefghijklmnopqrstuvwx"} {
		for stop := range 8 {
			d := disk.New(room)
			d.Stop(stop)
			write(d, small(name))
			for _, file := range d.List("") {
				if !strings.HasPrefix(file, name+"/") {
					t.Fatal(file)
				}
			}
		}
	}
}

// P8.3: all that a block may hold is read as it was written, bit by bit.
func TestAsWritten(t *testing.T) {
	values := []float64{0, math.Copysign(0, -1), 1, math.Pi, math.Inf(1), math.Inf(-1), math.MaxFloat64, 5e-324, math.NaN()}
	for _, bits := range []uint64{api.StaleBits, 0x7ff0000000000001, 0xfff8000000000000, math.MaxUint64, 1<<63 | 1} {
		values = append(values, math.Float64frombits(bits))
	}
	odd := api.Series{Labels: set("a=odd")}
	for i, v := range values {
		odd.Samples = append(odd.Samples, api.Sample{T: i*i*i - 1000, V: v})
	}
	wide := api.Series{Samples: []api.Sample{{T: 1, V: 1}}}
	for i := range api.MaxLabels {
		wide.Labels = append(wide.Labels, api.Label{Name: fmt.Sprintf("l%02d", i), Value: strings.Repeat("é", i+1)})
	}
	longest := api.Series{Labels: []api.Label{{Name: strings.Repeat("x", api.MaxLabel), Value: strings.Repeat("\n", api.MaxLabel)}}, Samples: []api.Sample{{T: 1, V: 1}}}
	from, to := -api.MaxTime, api.MaxTime+1
	d := disk.New(room)
	for i, p := range []pack{
		{meta: api.Meta{Min: from, Max: to, Level: math.MaxInt}, series: []api.Series{row("a=1", -api.MaxTime, -1, 0, 1, api.MaxTime)}},
		{meta: api.Meta{Min: from, Max: from + 1}, series: []api.Series{row("a=1", from)}},
		{meta: api.Meta{Min: to - 1, Max: to}, series: []api.Series{row("a=1", to-1)}},
		{meta: api.Meta{Min: -1000, Max: 10000}, series: []api.Series{odd, wide, longest}},
		{meta: api.Meta{Min: -1, Max: 2}, series: []api.Series{row("", -1, 0, 1)}, gone: []api.Gone{{Min: 0, Max: 0}}},
		{meta: api.Meta{Min: -1, Max: 2}, series: []api.Series{row("a=1", 0), row("a=1 b=1", 0), row("a=10", 1), row("b=0", 1)}},
		{meta: api.Meta{Min: 0, Max: 2}, series: []api.Series{row("a=1", 0)}, gone: []api.Gone{
			{Labels: set("a=1"), Min: 5, Max: 5}, {Labels: set("a=1"), Min: math.MinInt, Max: math.MaxInt}, {Labels: set("a=1"), Min: math.MaxInt, Max: math.MaxInt},
			{Labels: set("a=1"), Min: math.MinInt, Max: math.MinInt}, {Labels: set("a=1"), Min: 5, Max: 5}, {Labels: set("a=1"), Min: -9, Max: 1},
		}},
		small(""), large(""),
	} {
		p.meta.Name = fmt.Sprintf("block%d", i)
		put(t, d, p)
		d.Crash(nil)
		reads(t, d, p)
	}
}

// P8.3: blocks whose samples fill chunks, and whose bytes fill pages, just so or nearly.
func TestSizes(t *testing.T) {
	for _, n := range []int{1, 2, 119, 120, 121, 239, 240, 241, 1000} {
		d := disk.New(room)
		put(t, d, pack{meta: api.Meta{Name: "b", Max: 7 * n}, series: []api.Series{long("a=1", n), row("b=1", 0)}})
	}
	for n := 1; n <= api.MaxLabel; n++ {
		d := disk.New(room)
		l := []api.Label{{Name: "a", Value: strings.Repeat("v", n)}}
		put(t, d, pack{
			meta:   api.Meta{Name: "b", Max: 10},
			series: []api.Series{{Labels: l, Samples: row("", 3, 4).Samples}, {Labels: slices.Concat(l, set("b=1")), Samples: row("", 5).Samples}},
			gone:   []api.Gone{{Labels: l, Min: 1, Max: 2}},
		})
	}
}

// P8.3: a Block asks the disk for nothing any more, and keeps what it was.
func TestBlockStays(t *testing.T) {
	p := large("b1")
	d := disk.New(room)
	put(t, d, p)
	b := reads(t, d, p)
	want(t, block.Remove(d, "b1"), api.OK)
	put(t, d, small("b1"))
	wantTold(t, b, p)
	d.Stop(0)
	ops := d.Ops()
	wantTold(t, b, p)
	if _, e := b.Find(nil); e != api.OK || d.Ops() != ops {
		t.Fatal("a Block does operations", e)
	}
	d.Crash(nil)
	wantTold(t, b, p)
	reads(t, d, small("b1"))
}

// matchers are of all kinds, alone and together, right and wrong ones.
func matchers() [][]api.Matcher {
	one := []api.Matcher{}
	for _, kind := range []int{api.Equal, api.NotEqual, api.Match, api.NotMatch} {
		for _, name := range []string{"a", "b", "__name__", "nosuch", ""} {
			for _, value := range []string{"", "1", "2", "up", "1|2", ".*", ".+", "u."} {
				one = append(one, api.Matcher{Kind: kind, Name: name, Value: value})
			}
		}
	}
	for _, m := range []api.Matcher{{Kind: 0, Name: "a", Value: "1"}, {Kind: 5, Name: "a", Value: "("}, {Kind: -1}, {Kind: api.Match, Name: "a", Value: "("}, {Kind: api.NotMatch, Name: "nosuch", Value: "a**"}} {
		one = append(one, m)
	}
	out := [][]api.Matcher{nil, {}}
	for i, m := range one {
		out = append(out, []api.Matcher{m})
		for _, other := range one[i:] {
			out = append(out, []api.Matcher{m, other})
		}
	}
	return out
}

// P8.3: Find refuses what head.Matches does, and tells the series that it means, whole.
func TestFind(t *testing.T) {
	d := disk.New(room)
	full := large("full")
	full.gone = []api.Gone{{Labels: set("a=1 b=2"), Min: 0, Max: 9}}
	bare := pack{meta: api.Meta{Name: "bare", Max: 5}, series: []api.Series{row("", 1)}}
	none := pack{meta: api.Meta{Name: "none", Max: 5}}
	seen := map[api.Errno]int{}
	for _, p := range []pack{full, bare, none, small("small")} {
		put(t, d, p)
		b := reads(t, d, p)
		for _, ms := range matchers() {
			_, wantE := head.Matches(ms, set("x=1"))
			var meant []api.Series
			for _, s := range p.series {
				if ok, e := head.Matches(ms, s.Labels); ok && e == api.OK {
					meant = append(meant, s)
				}
			}
			got, e := b.Find(ms)
			if e != wantE || speltSeries(got) != speltSeries(meant) {
				t.Fatalf("Find(%v) of %s: %s, %d, want %s, %d", ms, p.meta.Name, speltSeries(got), e, speltSeries(meant), wantE)
			}
			seen[e]++
		}
	}
	if len(seen) != 3 || seen[api.ErrArg] == 0 || seen[api.ErrForm] == 0 {
		t.Fatal(seen)
	}
}

// P8.3, R1: All may be stopped anywhere, and ranged over many times, within itself too.
func TestAllStops(t *testing.T) {
	d := disk.New(room)
	p := large("b")
	put(t, d, p)
	all := reads(t, d, p).All()
	for stop := range len(p.series) + 1 {
		var got []api.Series
		for s := range all {
			if len(got) == stop {
				break
			}
			got = append(got, s)
		}
		if speltSeries(got) != speltSeries(p.series[:stop]) {
			t.Fatal("stopped at", stop)
		}
	}
	outer := 0
	for range all {
		if inner := len(slices.Collect(all)); inner != len(p.series) {
			t.Fatal("within itself", inner)
		}
		outer++
	}
	if outer != len(p.series) {
		t.Fatal(outer)
	}
	put(t, d, pack{meta: api.Meta{Name: "none", Max: 1}})
	b, _ := block.Open(d, "none")
	for s := range b.All() {
		t.Fatal("a series of none", s)
	}
}

// R4: two blocks know nothing of each other, on one disk or on two.
func TestApart(t *testing.T) {
	d, other := disk.New(room), disk.New(room)
	first, second := small("b1"), large("b2")
	put(t, d, first, second)
	wantList(t, other)
	put(t, other, large("b1"))
	reads(t, d, first)
	reads(t, d, second)
	want(t, block.Remove(d, "b1"), api.OK)
	reads(t, d, second)
	wantList(t, d, "b2")
	reads(t, other, large("b1"))
	again := large("b1")
	put(t, d, again)
	reads(t, d, second)
}

// Blocks of labels.New's sets in labels.Compare's order are right: the helpers of these tests make no others.
func TestHelpers(t *testing.T) {
	for _, p := range []pack{small("b"), large("b")} {
		if !block.Right(p.meta, p.series, p.gone) {
			t.Fatal(p.spelt())
		}
		for _, s := range p.series {
			if made, e := labels.New(s.Labels); e != api.OK || !slices.Equal(made, s.Labels) {
				t.Fatal(s.Labels)
			}
		}
	}
	d := disk.New(room)
	put(t, d, large("b"))
	if d.Used() < 3*1024 {
		t.Fatal("of one page or two", d.Used())
	}
}
