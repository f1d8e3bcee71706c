package expo

import (
	"strings"
	"unicode/utf8"

	"vigil/api"
	"vigil/labels"
	"vigil/num"
)

// ReadLine reads a sample line; of one that is refused it tells the place.
func ReadLine(s string) (api.Line, int, api.Errno) {
	front, _, more := strings.Cut(s, "\n")
	c := cursor{s: front}
	line, e := c.sample()
	if e == api.OK && more {
		e = api.ErrForm
	}
	if e != api.OK {
		return api.Line{}, c.at, e
	}
	return line, 0, api.OK
}

// sample reads the whole line.
func (c *cursor) sample() (line api.Line, e api.Errno) {
	c.blanks()
	metric := c.name(true)
	if metric == "" {
		return line, api.ErrForm
	}
	l := []api.Label{{Name: metricLabel, Value: metric}}
	parted := c.blanks()
	if c.take('{') {
		if l, e = c.labels(l); e != api.OK {
			return line, e
		}
		c.blanks()
	} else if !parted {
		return line, api.ErrForm
	}
	if line.V, e = c.value(); e != api.OK {
		return line, e
	}
	if c.blanks(); !c.ended() {
		line.HasT = true
		if line.T, e = c.time(); e != api.OK {
			return line, e
		}
	}
	if c.blanks(); !c.ended() {
		return line, api.ErrForm
	}
	if line.Labels, e = setOf(l); e != api.OK {
		c.at = 0
	}
	return line, e
}

// labels reads what stands behind the opening brace, up to the closing one, and adds it to l.
func (c *cursor) labels(l []api.Label) ([]api.Label, api.Errno) {
	times := map[string]int{}
reading:
	for {
		c.blanks()
		if c.take('}') {
			return l, api.OK
		}
		from := c.at
		x, e := c.label()
		if e != api.OK {
			return nil, e
		}
		if times[x.Name]++; times[x.Name] > 1 {
			c.at = from
			return nil, api.ErrTwice
		}
		l = append(l, x)
		switch c.blanks(); {
		case c.take(','):
			continue reading
		case c.take('}'):
			return l, api.OK
		}
		return nil, api.ErrForm
	}
}

// label reads a name, the sign behind it, and its value.
func (c *cursor) label() (api.Label, api.Errno) {
	name := c.name(false)
	if name == "" {
		return api.Label{}, api.ErrForm
	}
	if c.blanks(); !c.take('=') {
		return api.Label{}, api.ErrForm
	}
	c.blanks()
	opening := c.at
	value, e := c.quoted()
	if e != api.OK {
		return api.Label{}, e
	}
	if !utf8.ValidString(value) {
		c.at = opening
		return api.Label{}, api.ErrForm
	}
	return api.Label{Name: name, Value: value}, api.OK
}

// quoted reads what Escape wrote, between its quotes.
func (c *cursor) quoted() (string, api.Errno) {
	if !c.take('"') {
		return "", api.ErrForm
	}
	var out strings.Builder
	for !c.ended() {
		if c.take('"') {
			return out.String(), api.OK
		}
		b := c.s[c.at]
		if c.take('\\') {
			var ok bool
			if b, ok = c.escaped(); !ok {
				return "", api.ErrForm
			}
		}
		out.WriteByte(b)
		c.at++
	}
	return "", api.ErrForm
}

// escaped is the byte for which the next one stands, behind a backslash.
func (c *cursor) escaped() (byte, bool) {
	if c.ended() {
		return 0, false
	}
	switch b := c.s[c.at]; b {
	case '\\', '"':
		return b, true
	case 'n':
		return '\n', true
	}
	return 0, false
}

// value reads a sample's value.
func (c *cursor) value() (float64, api.Errno) {
	from := c.at
	v, e := num.Parse(c.piece())
	if e != api.OK {
		c.at = from
		return 0, api.ErrForm
	}
	return v, api.OK
}

// time reads a sample's time.
func (c *cursor) time() (int, api.Errno) {
	from := c.at
	t, e := num.Int(c.piece())
	if e != api.OK || t < -api.MaxTime || t > api.MaxTime {
		c.at = from
		return 0, api.ErrForm
	}
	return t, api.OK
}

// setOf makes a set of the metric's name and the labels behind it.
func setOf(l []api.Label) ([]api.Label, api.Errno) {
	for _, x := range l[1:] {
		// The metric has its name already, so that not even an empty one may stand among its labels.
		if x.Name == metricLabel {
			return nil, api.ErrName
		}
	}
	return labels.New(l)
}
