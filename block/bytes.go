package block

import (
	"bytes"
	"slices"
	"strings"

	"vigil/api"
	"vigil/chunk"
	"vigil/labels"
)

// numberSize is how many bytes a number takes, the highest first.
const numberSize = 8

// title begins a block's bytes, and tells whose they are.
func title(name string) string { return "vigil block " + name + "\n" }

// written is a block's file: its title, Min, Max and Level, then how many series it has, and these, then how many pieces are gone of them, and these; all of it in pages.
func written(m api.Meta, series []api.Series, gone []api.Gone) []byte {
	raw := []byte(title(m.Name))
	raw = appendNumbers(raw, m.Min, m.Max, m.Level, len(series))
	for _, s := range series {
		raw = appendSeries(raw, s)
	}
	raw = appendNumbers(raw, len(gone))
	for _, x := range gone {
		number, _ := numberOf(series, x.Labels)
		raw = appendNumbers(raw, number, x.Min, x.Max)
	}
	return sealed(raw)
}

// appendSeries writes a series: its labels, then how many chunks its samples make, and these.
func appendSeries(raw []byte, s api.Series) []byte {
	raw = appendPiece(raw, labels.Bytes(s.Labels))
	raw = appendNumbers(raw, (len(s.Samples)+api.MaxChunk-1)/api.MaxChunk)
	for lot := range slices.Chunk(s.Samples, api.MaxChunk) {
		packed, _ := chunk.Encode(lot)
		raw = appendPiece(raw, packed)
	}
	return raw
}

// appendPiece writes bytes behind their size.
func appendPiece(raw, piece []byte) []byte {
	return append(appendNumbers(raw, len(piece)), piece...)
}

func appendNumbers(raw []byte, numbers ...int) []byte {
	for _, n := range numbers {
		for shift := 8 * (numberSize - 1); shift >= 0; shift -= 8 {
			raw = append(raw, byte(n>>shift))
		}
	}
	return raw
}

// read is the block of that name whose file that is; false if it is not just what written wrote, as far as sums tell.
func read(name string, raw []byte) (*Block, bool) {
	held, whole := unsealed(raw)
	rest, own := bytes.CutPrefix(held, []byte(title(name)))
	r := reader{rest: rest, bad: !whole || !own}
	// The name is copied: it may be a piece of a longer text, which is not kept.
	b := &Block{meta: api.Meta{Name: strings.Clone(name), Min: r.number(), Max: r.number(), Level: r.number()}}
	for n := r.number(); n > 0 && !r.bad; n-- {
		b.series = append(b.series, r.series())
	}
	for n := r.number(); n > 0 && !r.bad; n-- {
		b.gone = append(b.gone, r.gone(b.series))
	}
	return b, !r.bad && len(r.rest) == 0 && Right(b.meta, b.series, b.gone)
}

// reader reads what was written, one thing behind the other; bad: something was not of its form, and what is read is nothing.
type reader struct {
	rest []byte
	bad  bool
}

func (r *reader) number() int {
	n := 0
	for _, c := range r.take(numberSize) {
		n = n<<8 | int(c)
	}
	return n
}

// take is the next so many bytes.
func (r *reader) take(size int) []byte {
	if size < 0 || size > len(r.rest) {
		r.bad = true
		return nil
	}
	out := r.rest[:size]
	r.rest = r.rest[size:]
	return out
}

// series reads what appendSeries wrote.
func (r *reader) series() api.Series {
	set, e := labels.Read(r.take(r.number()))
	r.bad = r.bad || e != api.OK
	s := api.Series{Labels: set}
	for n := r.number(); n > 0 && !r.bad; n-- {
		lot, e := chunk.Decode(r.take(r.number()))
		r.bad = r.bad || e != api.OK
		s.Samples = append(s.Samples, lot...)
	}
	return s
}

// gone reads what is gone of one of the series.
func (r *reader) gone(series []api.Series) api.Gone {
	number := r.number()
	if number < 0 || number >= len(series) {
		r.bad = true
		return api.Gone{}
	}
	return api.Gone{Labels: series[number].Labels, Min: r.number(), Max: r.number()}
}
