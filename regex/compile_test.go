package regex_test

import (
	"strings"
	"testing"
	"unicode/utf8"

	"vigil/api"
	"vigil/regex"
)

// made is the program of an expression that is right.
func made(t *testing.T, s string) *regex.Prog {
	t.Helper()
	p, at, e := regex.Compile(s)
	if p == nil || at != 0 || e != api.OK {
		t.Fatalf("Compile(%q) is refused: %d at %d", s, e, at)
	}
	return p
}

func TestPlaces(t *testing.T) {
	for s, at := range map[string]int{
		"a**": 2, "(": 1, "a)": 1, "[z-a]": 3, "x{3,2}": 5, "x{101}": 5, `\q`: 1, "*": 0,
		"[a-b-c]": 5, `[a-\d]`: 4, "[": 1,
		// Brackets.
		")": 0, "())": 2, "(a": 2, "((a)": 4, "(?": 2, "(?:": 3, "(?:a": 4, "(?a)": 2, "(?)": 2, "(?P<x>a)": 2, "(?:a))": 5, "a|b)": 3, "(a|": 3,
		// Repeats without a thing, behind a repeat, behind ^ and $.
		"+": 0, "?": 0, "{": 0, "{2}": 0, "a|*": 2, "(*)": 1, "(?:+)": 3, "|?": 1, "^*": 1, "$+": 1, "^{2}": 1, "$?": 1, "(^)*|^+": 6, "a*+": 2, "a+?*": 3, "a???": 3, "a{2}{3}": 4, "a{2}??": 5, "a*{2}": 2,
		// Numbers of repeats.
		"x{": 2, "x{}": 2, "x{,2}": 2, "x{a}": 2, "x{-1}": 2, "x{ 1}": 2, "x{1": 3, "x{1,": 4, "x{1,2": 5, "x{01}": 3, "x{00}": 3, "x{1,00}": 5, "x{1,02}": 5, "x{1,2,3}": 5, "x{1 }": 3, "x{1,x": 4, "x{1x}": 3, "x{1,-}": 4,
		"x{100,99}": 8, "x{1,0}": 5, "x{101,}": 6, "x{0,101}": 7, "x{101,102}": 9, "x{1000}": 6, "x{18446744073709551617}": 22, "x{99999999999999999999999999999999,1}": 36, "x{101": 5, "x{101x}": 5, "x{9,10": 6, "x{9,8y}": 5, "x{2,1}y": 5,
		// What does not stand for itself.
		"]": 0, "}": 0, "a]": 1, "a}": 1, "a{1}}": 4, "[a]]": 3,
		// Escapes.
		`\`: 1, `a\`: 2, `\é`: 1, "\\\xff": 1, `\1`: 1, `\_`: 1, `\b`: 1, `\N`: 1, `\f`: 1, "\\\n": 1, `\:`: 1, `\\\`: 3, `(\a)`: 2, `[\q]`: 2, `[\`: 2, `[a\`: 3, `[a-\`: 4, `[a-\q]`: 4, `[\d\e]`: 4,
		// Classes.
		"[^": 2, "[]": 2, "[^]": 3, "[a": 2, "[a-": 3, "[a-z": 4, "[^a-": 4, "[]a": 3, `[\]`: 3, `[\d-z]`: 4, `[\d-`: 4, `[\d-\d]`: 4, `[\w-a]`: 4, `[a-z-9]`: 5, `[a-z-\d]`: 5, `[a-z-`: 5, `[a\d-b]`: 5, `[a-\W]`: 4, `[-\d-z]`: 5,
		"[é-a]": 4, "[é-ä]": 5, "[z-\\n]": 4, "[z-\\-]": 4, "[a-\\]]": 4, "[b-aé]": 3, "[\xff-a]": 3, "[a--]": 3, "[a--b]": 3, "[+--b]": 4, "[----]": 4, "[^z-a]": 4, "[]-A]": 3, "[\U0010ffff-\U0010fffe]": 9, "[z-a": 3, "[d-ec-b]": 6,
	} {
		if p, got, e := regex.Compile(s); p != nil || got != at || e != api.ErrForm {
			t.Errorf("Compile(%q): %d at %d, want ErrForm at %d", s, e, got, at)
		}
	}
}

func TestRightForms(t *testing.T) {
	for _, s := range []string{
		"", "|", "||", "()", "(|)", "(?:)", "()*", "(?:)+", "(?:){3}?", "a|", "|a", "^", "$", "^^$$", "(^)*", "($)?", "(?:^)+", "^a$", "a^b", "-", "é", "\xff", "a,b:c", "a{0}", "a{0,0}", "a{0,}", "a{100}", "a{100,100}", "a{7,70}?", "a??", "a+?", "a*?",
		"[a]", "[]]", "[^]]", "[-]", "[^-]", "[--]", "[---]", "[+--]", "[a-]", "[-a]", "[^-a]", "[--a]", "[]-a]", "[^]-a]", `[\]-a]`, `[A-\]]`, `[\d-]`, `[-\d]`, `[a-z-]`, "[a-a]", "[^^]", "[a^]", "[.+*?(){}|$]", "[[]", "[é-ü]", `[\n-\r]`, "[\xff]", "[a-\xff]", "[a-cb-d]", `[\--a]`, `[a\-z]`,
		"((((((((((a))))))))))", "(?:(a)|(b)){2,3}?",
	} {
		made(t, s)
	}
}

func TestSizes(t *testing.T) {
	for s, size := range map[string]int{
		"a": 2, "(a)": 4, "a*": 4, "a|b": 5, "a{2,3}": 5, "": 1,
		"é": 2, ".": 2, "[a-z]": 2, `\d`: 2, "^": 2, "$": 2, "ab": 3, "(?:ab)": 3, "a+": 3, "a?": 3, "a{1,}": 5, "a{0,}": 4, "a{3}": 4, "a{0}": 1, "a{0,0}": 1, "a{0,2}": 5, "a{2,5}": 9, "a{2,}": 6, "a|b|c": 8, "|": 3, "||": 5, "()": 3, "(?:)": 1, "()*": 5,
		"(?:)*": 3, "(?:)+": 2, "(?:)?": 2, "(?:){9}": 1, "(?:){3,9}": 7, "(a|b)*?": 9, "(?:(a)){2}": 7, "(a{2}){3}": 13, "(ab)+": 6,
		"(?:(?:a{100}){100}){0}b": 2, "(?:(a{100}){100}){0,0}": 1,
	} {
		if got := made(t, s).Size(); got != size {
			t.Errorf("Size of %q is %d, want %d", s, got, size)
		}
	}
	for s, count := range map[string]int{"": 0, "a": 0, "(?:a)": 0, "(a)": 1, "()()": 2, "((a)|(?:b))(c)": 3, "(a){0}": 1, "(a){9}": 1, `\(a\)`: 0, "[(a)]": 0, "(a)|(b)": 2} {
		if got := made(t, s).Count(); got != count {
			t.Errorf("Count of %q is %d, want %d", s, got, count)
		}
	}
}

func TestLarge(t *testing.T) {
	if got := made(t, strings.Repeat("a", 256)).Size(); got != 257 {
		t.Errorf("Size of 256 characters is %d", got)
	}
	made(t, strings.Repeat("é", 128))
	if got := made(t, "(?:a{100}){19}a{99}").Size(); got != 2000 {
		t.Errorf("Size is %d, want 2000", got)
	}
	// Ways to come to 99 steps, behind 1900 and ahead of the end.
	for _, s := range []string{"(?:a{98})+", "(?:a{97})*", "(?:a{98})?", "(a{97})", "(?:a{49}|a{48})", "a{96,}", "a{0,49}.", "a{1,50}", "(?:a{32}){3}^$.", "(?:){0,99}", "(?:(?:)*){2,33}()"} {
		if got := made(t, "(?:a{100}){19}"+s).Size(); got != 2000 {
			t.Errorf("Size with %q is %d, want 2000", s, got)
		}
		if p, at, e := regex.Compile("(?:a{100}){19}" + s + "a"); p != nil || at != 0 || e != api.ErrLarge {
			t.Errorf("Compile with %q: %d at %d, want ErrLarge at 0", s, e, at)
		}
	}
	for _, s := range []string{
		strings.Repeat("a", 257), strings.Repeat("(", 257), strings.Repeat("*", 300), strings.Repeat("é", 129), strings.Repeat("a", 1<<16),
		"(?:a{100}){19}a{100}", "(a{100}){100}", "(?:a{0,100}){10}", "(?:a{100}){100,}", "(?:a{100}){20}", "(?:(?:a{45}){45})+", "((((a{100}){100}){100}){100}){100}", "(?:a{100}){20}|b", "(?:(?:a*){100}){7}", "(?:(){100}){10}",
		strings.Repeat("(?:", 28) + "a" + strings.Repeat("){100}", 28),
	} {
		if p, at, e := regex.Compile(s); p != nil || at != 0 || e != api.ErrLarge {
			t.Errorf("Compile(%.40q): %d at %d, want ErrLarge at 0", s, e, at)
		}
	}
	for s, at := range map[string]int{
		"(a{100}){100}(": 14, "(a{100}){100}*": 13, strings.Repeat("(", 256): 256, strings.Repeat("a", 255) + "*": -1, strings.Repeat("a", 255) + ")": 255,
	} {
		p, got, e := regex.Compile(s)
		if at < 0 && (p == nil || e != api.OK) || at >= 0 && (p != nil || got != at || e != api.ErrForm) {
			t.Errorf("Compile(%.40q): %d at %d, want ErrForm at %d", s, e, got, at)
		}
	}
}

// Repeats of nothing have no steps, however often they say it.
func TestRepeatsOfNothing(t *testing.T) {
	s := strings.Repeat("(?:", 28) + strings.Repeat("){100}", 28)
	if p := made(t, s); p.Size() != 1 || !p.Match("") || p.Match("a") {
		t.Errorf("Size of %q is %d", s, p.Size())
	}
	s = strings.Repeat("(?:", 28) + strings.Repeat(")*", 28)
	if p := made(t, s); p.Size() != 57 || !p.Match("") || p.Match("a") {
		t.Errorf("Size of %q is %d", s, p.Size())
	}
}

// The states of a byHand: what is being read.
const (
	inRow = iota
	inOpening
	inColon
	inEscape
	inNumber
	inClass
	inClassEscape
)

// byHand reads an expression byte by byte, so that the first byte that it can't go on with is the fault.
type byHand struct {
	state, depth int
	repeats      int // outside of classes: 0 no repeat may stand here, 1 one may, 2 a ? may
	number       string
	first        bool // in a class: nothing was read of it
	low          rune // in a class: the character that a range may begin with, -1 if there is none
	dash         bool // in a class: low and a dash were read
	mustClose    bool // in a class: a dash was read that is right only as the last
}

// take reads the character that begins s; false, if it can't stand there.
func (h *byHand) take(s string) (width int, ok bool) {
	c, width := utf8.DecodeRuneInString(s)
	switch h.state {
	case inRow:
		return width, h.row(c)
	case inOpening:
		h.state = inRow
		if c == '?' {
			h.state = inColon
			return width, true
		}
		return width, h.row(c)
	case inColon:
		h.state = inRow
		return width, c == ':'
	case inEscape:
		h.state, h.repeats = inRow, 1
		return width, strings.ContainsRune("\\.+*?()|[]{}^$-/\"' ntrdwsDWS", c)
	case inNumber:
		return width, h.inBraces(c)
	case inClass:
		return width, h.class(c)
	}
	h.state = inClass
	if strings.ContainsRune("dwsDWS", c) {
		bad := h.dash
		h.low, h.dash = -1, false
		return width, !bad
	}
	at := strings.IndexRune("ntr", c)
	if at >= 0 {
		c = rune("\n\t\r"[at])
	} else if !strings.ContainsRune("\\.+*?()|[]{}^$-/\"' ", c) {
		return width, false
	}
	return width, h.member(c)
}

func (h *byHand) row(c rune) bool {
	was := h.repeats
	h.repeats = 0
	switch c {
	case '(':
		h.state, h.depth = inOpening, h.depth+1
	case ')':
		h.depth, h.repeats = h.depth-1, 1
		return h.depth >= 0
	case '[':
		h.state, h.first, h.low, h.dash, h.mustClose = inClass, true, -2, false, false
	case '\\':
		h.state = inEscape
	case '{':
		h.state, h.number = inNumber, ""
		return was == 1
	case '*', '+':
		h.repeats = 2
		return was == 1
	case '?':
		h.repeats = 2 - 2*(was/2)
		return was > 0
	case '|', '^', '$':
	case ']', '}':
		return false
	default:
		h.repeats = 1
	}
	return true
}

func (h *byHand) inBraces(c rune) bool {
	if c != '}' {
		h.number += string(c)
		a, b, comma := strings.Cut(h.number, ",")
		good := func(s string) bool {
			return strings.Trim(s, "0123456789") == "" && (s == "0" || !strings.HasPrefix(s, "0"))
		}
		return a != "" && good(a) && (!comma || good(b))
	}
	h.state, h.repeats = inRow, 2
	a, b, comma := strings.Cut(h.number, ",")
	value := func(s string) int {
		n := 0
		for _, d := range s {
			n = min(10*n+int(d-'0'), 1000)
		}
		return n
	}
	return a != "" && value(a) <= 100 && (!comma || b == "" || value(b) <= 100 && value(a) <= value(b))
}

func (h *byHand) class(c rune) bool {
	first, low := h.first, h.low
	if c == '^' && low == -2 {
		h.low = -1
		return true
	}
	if low == -2 {
		h.low, low = -1, -1
	}
	switch {
	case h.mustClose && c != ']':
		return false
	case c == ']' && !first:
		h.state, h.repeats = inRow, 1
		return true
	case c == '\\':
		h.state, h.first = inClassEscape, false
		return true
	case c != '-' || first:
		return h.member(c)
	case h.dash:
		h.mustClose = true
		return h.member(c)
	case low >= 0:
		h.dash = true
		return true
	}
	h.mustClose = true
	return true
}

func (h *byHand) member(c rune) bool {
	h.first = false
	if h.dash {
		right := h.low <= c
		h.low, h.dash = -1, false
		return right
	}
	h.low = c
	return true
}

// placeByHand is the place of the fault of an expression, -1 if it has none.
func placeByHand(s string) int {
	var h byHand
	for at := 0; at < len(s); {
		state, dash := h.state, h.dash
		width, ok := h.take(s[at:])
		if !ok && width > 1 && (state == inClass && dash) {
			return at + width - 1 // of a range's end
		}
		if !ok {
			return at
		}
		at += width
	}
	if h.state == inRow && h.depth == 0 {
		return -1
	}
	return len(s)
}

// each calls f with all rows of at most n of the pieces.
func each(n int, pieces []string, f func(string)) {
	f("")
	if n == 0 {
		return
	}
	for _, p := range pieces {
		each(n-1, pieces, func(s string) { f(p + s) })
	}
}

// All short expressions are refused at the first byte that can't stand there.
func TestPlacesByHand(t *testing.T) {
	check := func(s string) {
		p, at, e := regex.Compile(s)
		want := placeByHand(s)
		if want < 0 && (p == nil || at != 0 || e != api.OK) || want >= 0 && (p != nil || at != want || e != api.ErrForm) {
			t.Fatalf("Compile(%q): %d at %d, want %d", s, e, at, want)
		}
	}
	each(5, []string{"a", "(", ")", "|", "*", "?", ":", "[", "]", "^", "\\", "{", "2", "}"}, check)
	for _, begin := range []string{"[", "[^", "[]", "[+", "[a"} {
		each(5, []string{"a", "-", "]", "^", "\\", "d", "+", "é", "\xff"}, func(s string) { check(begin + s) })
	}
	each(6, []string{"0", "1", "9", ",", "}", "?"}, func(s string) { check("x{" + s) })
	for c := range 256 {
		b := string([]byte{byte(c)})
		for _, s := range []string{b, "\\" + b, "a" + b, "[" + b, "[" + b + "]", "[\\" + b, "[a-" + b, "[+-\\" + b + "]", "(?" + b, "x{" + b, "x{1" + b, "x*" + b, "^" + b, "(" + b + ")"} {
			check(s)
		}
	}
}
