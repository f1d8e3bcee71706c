package tsdb

import "vigil/api"

// A number takes 7 bits of each of its bytes, the lowest first; the highest bit says that more follow.
const (
	numberBits = 7
	numberMore = 1 << numberBits
	// numberMost is how many bytes a number has at most, so that it fits an int.
	numberMost = 9
)

// record is what the log keeps as one: points that are taken, as head's Record writes them; what is deleted; and states that have changed.
type record struct {
	points []byte
	gone   []api.Gone
	states []api.Label
}

// bytes writes a record.
func (r record) bytes() []byte {
	raw := appendText(nil, string(r.points))
	raw = appendNumber(raw, len(r.gone))
	for _, x := range r.gone {
		raw = appendLabels(raw, x.Labels)
		raw = appendNumber(raw, x.Min-first)
		raw = appendNumber(raw, x.Max-first)
	}
	return appendLabels(raw, r.states)
}

// read reads what bytes wrote, and the points of it as series; false of anything else.
func read(raw []byte) (record, []api.Series, bool) {
	in := reader{rest: raw}
	r := record{points: []byte(in.text())}
	for n := in.number(); n > 0 && !in.bad; n-- {
		r.gone = append(r.gone, api.Gone{Labels: in.labels(), Min: in.number() + first, Max: in.number() + first})
	}
	r.states = in.labels()
	taken := endless()
	if in.bad || len(in.rest) > 0 || taken.Replay(r.points) != api.OK {
		return record{}, nil, false
	}
	series, _ := taken.Cut(first, end)
	return r, series, true
}

// reader reads one thing behind the other; bad: something was not of its form, and what is read is nothing.
type reader struct {
	rest []byte
	bad  bool
}

func (in *reader) number() int {
	n := 0
	for i, c := range in.rest[:min(len(in.rest), numberMost)] {
		n |= int(c&(numberMore-1)) << (i * numberBits)
		if c < numberMore {
			in.rest = in.rest[i+1:]
			return n
		}
	}
	in.bad = true
	return 0
}

func (in *reader) text() string {
	size := in.number()
	if size > len(in.rest) {
		in.bad = true
		return ""
	}
	s := string(in.rest[:size])
	in.rest = in.rest[size:]
	return s
}

func (in *reader) labels() []api.Label {
	var l []api.Label
	for n := in.number(); n > 0 && !in.bad; n-- {
		l = append(l, api.Label{Name: in.text(), Value: in.text()})
	}
	return l
}

// appendNumber writes a number that is not below 0.
func appendNumber(raw []byte, n int) []byte {
	for ; n >= numberMore; n >>= numberBits {
		raw = append(raw, byte(n)|numberMore)
	}
	return append(raw, byte(n))
}

// appendText writes a text behind its size.
func appendText(raw []byte, s string) []byte {
	return append(appendNumber(raw, len(s)), s...)
}

// appendLabels writes labels behind their number.
func appendLabels(raw []byte, l []api.Label) []byte {
	raw = appendNumber(raw, len(l))
	for _, x := range l {
		raw = appendText(raw, x.Name)
		raw = appendText(raw, x.Value)
	}
	return raw
}
