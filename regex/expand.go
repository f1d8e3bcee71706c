package regex

import "strings"

// maxDigits is how many digits the number of a group may have in a template.
const maxDigits = 3

// Expand puts groups into a template.
func Expand(template, text string, groups []int) string {
	var out strings.Builder
	for {
		before, rest, found := strings.Cut(template, "$")
		out.WriteString(before)
		if !found {
			return out.String()
		}
		group, width := asked(rest)
		switch {
		case width > 0:
			out.WriteString(textOf(group, text, groups))
		case strings.HasPrefix(rest, "$"):
			out.WriteByte('$')
			width = 1
		default:
			out.WriteByte('$')
		}
		template = rest[width:]
	}
}

// asked is the group that what stands behind a $ asks for, and how many bytes it takes to do so: 0, if it asks for none.
func asked(s string) (group, width int) {
	if s != "" && s[0] >= '1' && s[0] <= '9' {
		return int(s[0] - '0'), 1
	}
	if !strings.HasPrefix(s, "{") {
		return 0, 0
	}
	end := 1
	for end < len(s) && s[end] >= '0' && s[end] <= '9' && end <= maxDigits {
		group = group*10 + int(s[end]-'0')
		end++
	}
	if end == 1 || end > 2 && s[1] == '0' || end == len(s) || s[end] != '}' {
		return 0, 0
	}
	return group, end + 1
}

// textOf is the text of a group, nothing if there is none or it was not met.
func textOf(group int, text string, groups []int) string {
	if 2*group+1 >= len(groups) {
		return ""
	}
	begin, end := groups[2*group], groups[2*group+1]
	if begin < 0 || begin > end || end > len(text) {
		return ""
	}
	return text[begin:end]
}

// Quote is an expression that means just a text.
func Quote(s string) string {
	var out strings.Builder
	for i := range len(s) {
		switch c := s[i]; {
		case c == '\n':
			out.WriteString(`\n`)
		case c == '\t':
			out.WriteString(`\t`)
		case c == '\r':
			out.WriteString(`\r`)
		case special(c):
			out.WriteByte('\\')
			out.WriteByte(c)
		default:
			out.WriteByte(c)
		}
	}
	return out.String()
}
