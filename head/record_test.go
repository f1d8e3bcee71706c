package head_test

import (
	"bytes"
	"math"
	"slices"
	"testing"

	"vigil/api"
	"vigil/chunk"
	"vigil/head"
	"vigil/labels"
)

// P7.6: Record has what Plan says OK of; Replay of it does what Commit does.
func TestRecord(t *testing.T) {
	batch := []api.Point{point("a=1", 10, 1), point("a=1", 10, 2), point("a=2", 11, 1), point("", 1, 1), point("a=1", api.MaxTime+1, 1), point("a=1", 12, math.Float64frombits(api.StaleBits)), point("b=1", 1, 1)}
	h, x := head.New(5), head.New(5)
	raw := h.Record(batch)
	if s, n := h.Count(); s != 0 || n != 0 {
		t.Fatal("Record has changed the Head")
	}
	if e := x.Replay(raw); e != api.OK {
		t.Fatal("Replay", e)
	}
	if n := h.Commit(batch); n != 3 {
		t.Fatal("Commit", n)
	}
	if spelt(told(h)) != spelt(told(x)) || h.Newest() != x.Newest() || short(told(x)) != "a=1: 10 12; a=2: 11" {
		t.Fatal("Replay", spelt(told(x)))
	}
	// The points are Committed: what Plan refuses now is not taken.
	if e := x.Replay(raw); e != api.OK || spelt(told(h)) != spelt(told(x)) {
		t.Fatal("Replay once more", e, spelt(told(x)))
	}
	y := holding(t, 0, point("a=1", 11, 7))
	if e := y.Replay(raw); e != api.OK || short(told(y)) != "a=1: 11 12; a=2: 11" {
		t.Fatal("Replay on another Head", e, short(told(y)))
	}
	if got := holding(t, 0, point("z=1", 100, 1)); got.Replay(raw) != api.OK || short(told(got)) != "z=1: 100" {
		t.Fatal("Replay of what is too old", short(told(got)))
	}
}

// P7.6: a Record of nothing is replayed too, and nothing comes of it.
func TestRecordOfNothing(t *testing.T) {
	h := holding(t, 0, point("a=1", 5, 1))
	for _, batch := range [][]api.Point{nil, {}, {point("", 1, 1)}, {point("a=1", 5, 1), point("a=1", 4, 1)}} {
		raw := h.Record(batch)
		if e := h.Replay(raw); e != api.OK || short(told(h)) != "a=1: 5" {
			t.Fatal("Replay", e, short(told(h)))
		}
	}
	if e := h.Replay(nil); e != api.OK {
		t.Fatal("Replay of no bytes", e)
	}
}

// P7.6: the order of a batch's points is kept, since the horizon moves with them.
func TestRecordOrder(t *testing.T) {
	batch := []api.Point{point("b=1", 1, 1), point("a=1", 100, 1), point("b=1", 95, 1), point("c=1", 91, 1), point("a=1", 102, 1), point("b=1", 96, 1)}
	h, x := head.New(10), head.New(10)
	if x.Replay(h.Record(batch)) != api.OK || h.Commit(batch) != 6 || spelt(told(h)) != spelt(told(x)) {
		t.Fatal("Replay", spelt(told(x)))
	}
}

// P7.6: batches of many points, around the size of a chunk, of few and many series.
func TestRecordSizes(t *testing.T) {
	for _, n := range []int{1, 2, 119, 120, 121, 239, 240, 241, 600} {
		for _, series := range []int{1, 7, 200} {
			var batch []api.Point
			for i := range n {
				batch = append(batch, point("a="+itoa(i%series), i, float64(i)/7))
			}
			h, x := head.New(1<<40), head.New(1<<40)
			if x.Replay(h.Record(batch)) != api.OK || h.Commit(batch) != n || spelt(told(h)) != spelt(told(x)) {
				t.Fatalf("%d points of %d series", n, series)
			}
		}
	}
}

// P7.6: no proper beginning of a Record is one, but the empty one; nor is one with a byte more.
func TestReplayCut(t *testing.T) {
	var batch []api.Point
	for i := range 130 {
		batch = append(batch, point("a="+itoa(i%5), i, float64(i%3)))
	}
	for _, batch := range [][]api.Point{batch, batch[:1], batch[:7]} {
		raw := head.New(1 << 40).Record(batch)
		h := holding(t, 1<<40, point("z=1", 0, 1))
		for k := 1; k < len(raw); k++ {
			wantForm(t, h, raw[:k:k])
		}
		for b := range 256 {
			wantForm(t, h, append(slices.Clone(raw), byte(b)))
		}
		wantForm(t, h, append(slices.Clone(raw), raw...))
	}
}

// wantForm wants a Head that has z=1 (0, 1) to refuse bytes, and to be as it was.
func wantForm(t *testing.T, h *head.Head, raw []byte) {
	t.Helper()
	if e := h.Replay(raw); e != api.ErrForm {
		t.Fatalf("Replay of %.200x: %d", raw, e)
	}
	if s, n := h.Count(); s != 1 || n != 1 || h.Newest() != 0 {
		t.Fatalf("what is refused has changed the Head: %d, %d", s, n)
	}
}

// rewritten wants bytes to be refused, or to be what a Head that was empty writes of what it took of them.
func rewritten(t *testing.T, raw []byte) bool {
	t.Helper()
	h := head.New(math.MaxInt)
	switch e := h.Replay(raw); e {
	case api.ErrForm:
		if s, n := h.Count(); s != 0 || n != 0 {
			t.Fatalf("what is refused has changed the Head: %.200x", raw)
		}
		return false
	case api.OK:
	default:
		t.Fatalf("Replay of %.200x: %d", raw, e)
	}
	// Of few points the batch is found by trying the orders in which series may be mixed.
	if !mixes(told(h), nil, raw) {
		t.Fatalf("taken, but no Record: %.200x", raw)
	}
	return true
}

// mixes tells whether some order of the samples, each series' own kept, has that Record.
func mixes(l []api.Series, batch []api.Point, raw []byte) bool {
	left := false
	for i, s := range l {
		if len(s.Samples) == 0 {
			continue
		}
		left = true
		rest := slices.Clone(l)
		rest[i].Samples = s.Samples[1:]
		p := api.Point{Labels: s.Labels, T: s.Samples[0].T, V: s.Samples[0].V}
		if mixes(rest, append(slices.Clone(batch), p), raw) {
			return true
		}
	}
	return !left && bytes.Equal(head.New(math.MaxInt).Record(batch), raw)
}

// P7.6: a Record with any byte another one is refused, or is another Record.
func TestReplayChanged(t *testing.T) {
	raw := head.New(1 << 40).Record([]api.Point{point("a=1", 10, 1), point("a=2 b=1", 10, 2), point("a=1", 11, 1), point("a=2 b=1", 12, 3)})
	refused, taken := 0, 0
	for i := range raw {
		for b := range 256 {
			other := slices.Clone(raw)
			other[i] = byte(b)
			if rewritten(t, other) {
				taken++
			} else {
				refused++
			}
		}
	}
	if refused == 0 || taken == 0 {
		t.Fatal("refused", refused, "taken", taken)
	}
}

// P7.6: bytes of any kind.
func TestReplayAnything(t *testing.T) {
	for a := range 256 {
		rewritten(t, []byte{byte(a)})
		for b := range 256 {
			rewritten(t, []byte{byte(a), byte(b)})
		}
	}
	d := draws(3)
	raw := head.New(1 << 40).Record([]api.Point{point("a=1", 10, 1), point("a=2", 10, 2), point("a=1", 11, 1)})
	for range 20000 {
		other := slices.Clone(raw)
		for range 1 + d.below(4) {
			i := d.below(len(other))
			switch d.below(3) {
			case 0:
				other[i] = byte(d.below(256))
			case 1:
				other = slices.Delete(other, i, min(len(other), i+1+d.below(3)))
			default:
				other = slices.Insert(other, i, byte(d.below(256)))
			}
			if len(other) == 0 {
				break
			}
		}
		rewritten(t, other)
	}
}

// P7.6: what has a Record's form, but no Head could have written.
func TestReplayForged(t *testing.T) {
	h := holding(t, 1<<40, point("z=1", 0, 1))
	for why, points := range map[string][]api.Point{
		"one time twice":        {point("a=1", 1, 1), point("a=1", 1, 1)},
		"one time, other value": {point("a=1", 1, 1), point("b=1", 1, 1), point("a=1", 1, 2)},
		"times that fall":       {point("a=1", 2, 1), point("a=1", 1, 1)},
		"a time too great":      {point("a=1", api.MaxTime+1, 1)},
		"a time too small":      {point("b=1", 1, 1), point("a=1", -api.MaxTime-1, 1)},
		"no labels":             {point("", 1, 1)},
		"a label without value": {point("a=", 1, 1)},
		"labels that fall":      {point("b=1 a=1", 1, 1)},
		"a wrong name":          {point("1=a", 1, 1)},
	} {
		t.Log(why)
		wantForm(t, h, head.Forged(points))
	}
	a, b := labels.Bytes(set("a=1")), labels.Bytes(set("b=1"))
	number, piece := head.ForgedNumber, head.ForgedPiece
	samples := func(l ...api.Sample) []byte {
		raw, e := chunk.Encode(l)
		if e != api.OK {
			t.Fatal(e)
		}
		return piece(raw)
	}
	right := slices.Concat(number(1), piece(a), number(1), number(0), samples(api.Sample{T: 1}))
	if !bytes.Equal(right, head.New(1).Record([]api.Point{point("a=1", 1, 0)})) {
		t.Fatal("a Record is not of the form that is forged here")
	}
	two := []api.Sample{{T: 1}, {T: 2}}
	long, full := row(), number(121)
	for i := range 121 {
		long, full = append(long, api.Sample{T: i}), append(full, 0)
	}
	for why, raw := range map[string][]byte{
		"no sets and no points":          slices.Concat(number(0), number(0)),
		"a set, but no points":           slices.Concat(number(1), piece(a), number(0)),
		"a set of no point":              slices.Concat(number(2), piece(a), piece(b), number(1), number(0), samples(two[:1]...)),
		"a set twice":                    slices.Concat(number(2), piece(a), piece(a), number(2), number(0), number(1), samples(two...)),
		"sets in another order":          slices.Concat(number(2), piece(a), piece(b), number(2), number(1), number(0), samples(two...)),
		"a point of no set":              slices.Concat(number(1), piece(a), number(1), number(1), samples(two[:1]...)),
		"a point too few":                slices.Concat(number(1), piece(a), number(2), number(0), samples(two...)),
		"a sample too few":               slices.Concat(number(1), piece(a), number(2), number(0), number(0), samples(two[:1]...)),
		"a sample too many":              slices.Concat(number(1), piece(a), number(1), number(0), samples(two...)),
		"no samples":                     slices.Concat(number(1), piece(a), number(1), number(0)),
		"a chunk of no samples":          slices.Concat(number(1), piece(a), number(0), samples()),
		"two chunks for one":             slices.Concat(number(1), piece(a), number(2), number(0), number(0), samples(two[:1]...), samples(two[1:]...)),
		"chunks that are not full":       slices.Concat(number(1), piece(a), full, samples(long[:60]...), samples(long[60:]...)),
		"very many sets":                 slices.Concat(number(math.MaxInt), piece(a), number(1), number(0), samples(two[:1]...)),
		"very many points":               slices.Concat(number(1), piece(a), number(math.MaxInt), number(0), samples(two[:1]...)),
		"very many points, and no bytes": slices.Concat(number(1), piece(a), number(math.MaxInt)),
		"a point of a very great number": slices.Concat(number(1), piece(a), number(1), number(math.MaxInt), samples(two[:1]...)),
		"a piece of very great size":     slices.Concat(number(1), number(math.MaxInt), a),
		"a number with noughts ahead":    slices.Concat([]byte{0x81, 0}, right[1:]),
		"a number that does not end":     bytes.Repeat([]byte{0xff}, 40),
		"a number too great for an int":  slices.Concat(bytes.Repeat([]byte{0xff}, 9), []byte{1}),
		"a size that does not end":       slices.Concat(number(1), []byte{0xff}),
		"a set that is none":             slices.Concat(number(1), piece(nil), number(1), number(0), samples(two[:1]...)),
		"a chunk that is none":           slices.Concat(number(1), piece(a), number(1), number(0), piece([]byte{0, 1})),
	} {
		t.Log(why)
		wantForm(t, h, raw)
	}
	if e := h.Replay(slices.Concat(number(1), piece(a), full, samples(long[:120]...), samples(long[120:]...))); e != api.OK {
		t.Fatal("full chunks are refused", e)
	}
}
