package regex

import (
	"unicode/utf8"

	"vigil/api"
)

// The kinds of nodes.
const (
	takeNode   = iota // one character of a class
	startNode         // ^
	endNode           // $
	rowNode           // its parts one behind the other
	eitherNode        // one of its two parts
	groupNode         // its part, with a number
	plusNode          // its part once or more
	timesNode         // its part from least to most times
)

// noMost is the most of a repeat that has none.
const noMost = -1

// node is a part of an expression.
type node struct {
	kind        int
	class       []span
	parts       []*node
	group       int
	least, most int
	lazy        bool
	size        int // how many steps it comes to; capped
}

// capped keeps the sizes of nested repeats from running over; what is beyond the limit need not be told apart.
func capped(size int) int { return min(size, api.MaxProgram+1) }

// taking is the node of a class.
func taking(class []span) *node { return &node{kind: takeNode, class: class, size: 1} }

// reader reads an expression from its beginning on. Where one of its methods answers false, at is the place of the fault.
type reader struct {
	s      string
	at     int
	groups int
}

// sees tells whether c is the next byte.
func (r *reader) sees(c byte) bool { return r.at < len(r.s) && r.s[r.at] == c }

// skip goes behind the next byte, if it is c.
func (r *reader) skip(c byte) bool {
	if !r.sees(c) {
		return false
	}
	r.at++
	return true
}

// char reads the next character.
func (r *reader) char() rune {
	char, width := utf8.DecodeRuneInString(r.s[r.at:])
	r.at += width
	return char
}

// either reads alternatives, up to a closing bracket or the end.
func (r *reader) either() (*node, bool) {
	first, ok := r.row()
	if !ok || !r.skip('|') {
		return first, ok
	}
	second, ok := r.either()
	if !ok {
		return nil, false
	}
	return &node{kind: eitherNode, parts: []*node{first, second}, size: capped(first.size + second.size + 2)}, true
}

// row reads parts that stand one behind the other; there may be none.
func (r *reader) row() (*node, bool) {
	row := &node{kind: rowNode}
	for r.at < len(r.s) && !r.sees('|') && !r.sees(')') {
		part, ok := r.part()
		if !ok {
			return nil, false
		}
		row.parts = append(row.parts, part)
		row.size = capped(row.size + part.size)
	}
	return row, true
}

// part reads a thing and the repeat behind it, if there is one.
func (r *reader) part() (*node, bool) {
	if r.skip('^') {
		return &node{kind: startNode, size: 1}, true
	}
	if r.skip('$') {
		return &node{kind: endNode, size: 1}, true
	}
	thing, ok := r.thing()
	if !ok {
		return nil, false
	}
	return r.repeated(thing)
}

// thing reads what a repeat can stand behind.
func (r *reader) thing() (*node, bool) {
	switch {
	case r.skip('('):
		return r.bracket()
	case r.skip('['):
		class, ok := r.class()
		return taking(class), ok
	case r.skip('.'):
		return taking(every()), true
	case r.skip('\\'):
		class, _, ok := r.escape()
		return taking(class), ok
	case special(r.s[r.at]):
		return nil, false
	}
	return taking(only(r.char())), true
}

// bracket reads what stands behind an opening bracket, and the closing one.
func (r *reader) bracket() (*node, bool) {
	group := 0
	if r.skip('?') {
		if !r.skip(':') {
			return nil, false
		}
	} else {
		r.groups++
		group = r.groups
	}
	inner, ok := r.either()
	if !ok || !r.skip(')') {
		return nil, false
	}
	if group == 0 {
		return inner, true
	}
	return &node{kind: groupNode, parts: []*node{inner}, group: group, size: capped(inner.size + 2)}, true
}

// repeated reads a repeat behind a thing, if there is one.
func (r *reader) repeated(thing *node) (*node, bool) {
	n := &node{kind: timesNode, parts: []*node{thing}, most: noMost}
	switch {
	case r.skip('*'):
	case r.skip('+'):
		n.kind = plusNode
	case r.skip('?'):
		n.most = 1
	case r.skip('{'):
		ok := false
		if n.least, n.most, ok = r.counts(); !ok {
			return nil, false
		}
	default:
		return thing, true
	}
	n.lazy = r.skip('?')
	switch {
	case n.kind == plusNode:
		n.size = capped(thing.size + 1)
	case n.most == noMost:
		n.size = capped(n.least*thing.size + thing.size + 2)
	default:
		n.size = capped(n.least*thing.size + (n.most-n.least)*(thing.size+1))
	}
	return n, true
}

// counts reads the numbers of a repeat, and the brace behind them.
func (r *reader) counts() (least, most int, ok bool) {
	if least, ok = r.number(); !ok {
		return 0, 0, false
	}
	most = least
	if r.skip(',') {
		most = noMost
		if !r.sees('}') {
			if most, ok = r.number(); !ok {
				return 0, 0, false
			}
		}
	}
	// Numbers that are wrong are told at the brace, so it must be there first.
	if !r.sees('}') || max(least, most) > api.MaxRepeat || most != noMost && most < least {
		return 0, 0, false
	}
	r.at++
	return least, most, true
}

// number reads a number without noughts ahead. What is too great for a repeat need not be told apart.
func (r *reader) number() (int, bool) {
	if r.skip('0') {
		return 0, true
	}
	first, n := r.at, 0
	for r.at < len(r.s) && r.s[r.at] >= '0' && r.s[r.at] <= '9' {
		n = min(n*10+int(r.s[r.at]-'0'), api.MaxRepeat+1)
		r.at++
	}
	return n, r.at > first
}

// escape reads what stands behind a backslash; alone says that it is one character.
func (r *reader) escape() (class []span, alone, ok bool) {
	if r.at == len(r.s) {
		return nil, false, false
	}
	c := r.s[r.at]
	if class, ok = lettered(c); ok {
		r.at++
		return class, false, true
	}
	char, ok := escaped(c)
	if !ok {
		return nil, false, false
	}
	r.at++
	return only(char), true, true
}

// class reads what stands behind an opening square bracket, and the closing one.
func (r *reader) class() ([]span, bool) {
	not := r.skip('^')
	var class []span
	for first := true; first || !r.sees(']'); first = false {
		piece, ok := r.piece(first)
		if !ok {
			return nil, false
		}
		class = append(class, piece...)
	}
	r.at++
	class = tidy(class)
	if not {
		class = others(class)
	}
	return class, true
}

// piece reads a character, a range or an escape of a class.
func (r *reader) piece(first bool) ([]span, bool) {
	low, alone, ok := r.member(first)
	if !ok || !alone || !r.sees('-') || r.at+1 < len(r.s) && r.s[r.at+1] == ']' {
		return low, ok
	}
	r.at++
	// A second dash may be the range's end, if it is the last of the class; but not if it is less than the range's beginning.
	if r.sees('-') && low[0].low > '-' {
		return nil, false
	}
	high, alone, ok := r.member(false)
	if !ok {
		return nil, false
	}
	if !alone || high[0].low < low[0].low {
		r.at--
		return nil, false
	}
	return []span{{low[0].low, high[0].low}}, true
}

// member reads a character or an escape of a class; alone says that it is one character.
func (r *reader) member(first bool) (class []span, alone, ok bool) {
	if r.at == len(r.s) {
		return nil, false, false
	}
	if r.skip('\\') {
		return r.escape()
	}
	dash := r.sees('-')
	char := r.char()
	if dash && !first && !r.sees(']') {
		return nil, false, false
	}
	return only(char), true, true
}
