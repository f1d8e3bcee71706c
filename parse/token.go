package parse

import (
	"strings"
	"unicode/utf8"

	"vigil/api"
	"vigil/labels"
	"vigil/num"
)

// reader reads a query from its beginning on. Its place at is always that of the next token, or the end, so that this is the place of the refusal where one of its methods refuses something.
type reader struct {
	s  string
	at int
}

// newReader is a reader ahead of the first token.
func newReader(s string) *reader {
	r := &reader{s: s}
	r.skip(0)
	return r
}

// end refuses what is left.
func (r *reader) end() api.Errno {
	if r.at < len(r.s) {
		return api.ErrForm
	}
	return api.OK
}

// skip passes by a token of that many bytes, with the blanks and remarks behind it.
func (r *reader) skip(width int) {
	r.at += width
	for r.at < len(r.s) {
		switch r.s[r.at] {
		case ' ', '\t', '\n', '\r':
			r.at++
		case '#':
			r.at += lineEnd(r.s[r.at:])
		default:
			return
		}
	}
}

// sees tells whether a word or sign is next.
func (r *reader) sees(token string) bool { return r.token() == token }

// take passes a word or sign by, if it is next.
func (r *reader) take(token string) bool {
	if !r.sees(token) {
		return false
	}
	r.skip(len(token))
	return true
}

// takeColon passes a colon by, which would begin a word elsewhere.
func (r *reader) takeColon() bool {
	if !strings.HasPrefix(r.s[r.at:], ":") {
		return false
	}
	r.skip(1)
	return true
}

// token is the word or sign that is next; empty, if neither is.
func (r *reader) token() string {
	if word := r.word(); word != "" {
		return word
	}
	return r.sign()
}

// word is the word that is next; empty, if none is.
func (r *reader) word() string {
	rest := r.s[r.at:]
	end := 0
	for end < len(rest) && (isWordly(rest[end]) || end > 0 && isDigit(rest[end])) {
		end++
	}
	return rest[:end]
}

// sign is the longest sign that stands here; empty, if none does. A colon is none, but where takeColon takes it.
func (r *reader) sign() string {
	rest := r.s[r.at:]
	switch {
	case len(rest) > 1 && isLongSign(rest[:2]):
		return rest[:2]
	case rest != "" && strings.IndexByte("(){}[],@+-*/%=<>", rest[0]) >= 0:
		return rest[:1]
	}
	return ""
}

// labelName reads a label's name.
func (r *reader) labelName() (string, api.Errno) {
	name := r.word()
	if !labels.RightName(name) {
		return "", api.ErrForm
	}
	r.skip(len(name))
	return name, api.OK
}

// number reads a number; false, if none is next.
func (r *reader) number() (float64, bool) {
	text := r.word()
	if !isNumber(text) {
		text = r.figures()
	}
	v, why := num.Parse(text)
	if why != api.OK {
		return 0, false
	}
	r.skip(len(text))
	return v, true
}

// figures is the longest text here that begins with a digit or a point and that num.Parse reads; empty, if there is none.
func (r *reader) figures() string {
	rest := r.s[r.at:min(len(r.s), r.at+api.MaxNumber)]
	end := digits(rest)
	if strings.HasPrefix(rest[end:], ".") {
		behind := digits(rest[end+1:])
		if end+behind == 0 {
			return ""
		}
		end += 1 + behind
	}
	if end == 0 {
		return ""
	}
	return rest[:end+exponent(rest[end:])]
}

// text reads a string; false, if none is next.
func (r *reader) text() (string, bool) {
	rest := r.s[r.at:]
	if rest == "" {
		return "", false
	}
	text, width := "", 0
	switch rest[0] {
	case '"', '\'':
		text, width = unquoted(rest)
	case '`':
		if end := strings.IndexByte(rest[1:], '`'); end >= 0 {
			text, width = rest[1:1+end], end+2
		}
	}
	if width == 0 || !utf8.ValidString(text) {
		return "", false
	}
	r.skip(width)
	return text, true
}

// duration reads a duration of that many milliseconds or more.
func (r *reader) duration(least int) (int, api.Errno) {
	rest := r.s[r.at:]
	end := 0
	for end < len(rest) && (isLetter(rest[end]) || isDigit(rest[end])) {
		end++
	}
	ms, why := num.Duration(rest[:end])
	if why != api.OK || ms < least {
		return 0, api.ErrForm
	}
	r.skip(end)
	return ms, api.OK
}

// unquoted is what a string says that s begins with, and how many bytes it has with its quotes; none, if it is no right one.
func unquoted(s string) (string, int) {
	var out strings.Builder
	for i := 1; i < len(s); i++ {
		b := s[i]
		switch b {
		case s[0]:
			return out.String(), i + 1
		case '\n':
			return "", 0
		case '\\':
			i++
			if i == len(s) {
				return "", 0
			}
			var ok bool
			if b, ok = escaped(s[i]); !ok {
				return "", 0
			}
		}
		out.WriteByte(b)
	}
	return "", 0
}

// escaped is the byte for which one behind a backslash stands.
func escaped(b byte) (byte, bool) {
	switch b {
	case '\\', '"', '\'':
		return b, true
	case 'n':
		return '\n', true
	case 't':
		return '\t', true
	case 'r':
		return '\r', true
	}
	return 0, false
}

// lineEnd is how many bytes stand ahead of the end of the first line of s.
func lineEnd(s string) int {
	if end := strings.IndexByte(s, '\n'); end >= 0 {
		return end
	}
	return len(s)
}

// digits is how many digits s begins with.
func digits(s string) int {
	n := 0
	for n < len(s) && isDigit(s[n]) {
		n++
	}
	return n
}

// exponent is how many bytes of s are the exponent that it begins with; 0, if it begins with none.
func exponent(s string) int {
	if s == "" || s[0] != 'e' && s[0] != 'E' {
		return 0
	}
	from := 1
	if from < len(s) && (s[from] == '+' || s[from] == '-') {
		from++
	}
	if n := digits(s[from:]); n > 0 {
		return from + n
	}
	return 0
}

// isLongSign tells whether two bytes are one sign.
func isLongSign(s string) bool {
	switch s {
	case "==", "!=", "=~", "!~", "<=", ">=":
		return true
	}
	return false
}

// isWordly tells whether a byte may begin a word.
func isWordly(b byte) bool { return isLetter(b) || b == '_' || b == ':' }

func isLetter(b byte) bool { return 'a' <= b && b <= 'z' || 'A' <= b && b <= 'Z' }

func isDigit(b byte) bool { return '0' <= b && b <= '9' }
