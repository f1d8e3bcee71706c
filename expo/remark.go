package expo

import (
	"strings"
	"unicode/utf8"

	"vigil/api"
	"vigil/labels"
)

// The words by which a line says something of a metric.
const (
	helpWord = "HELP"
	typeWord = "TYPE"
)

// takeRemark adds what a line says of a metric, of which s is what stands behind its #; a remark says nothing.
func (c *content) takeRemark(s string) api.Errno {
	word, metric, rest, ok := readRemark(s)
	if !ok {
		return api.OK
	}
	if word == helpWord {
		help := helpText(rest)
		if !utf8.ValidString(help) {
			return api.ErrForm
		}
		c.family(metric).Help = help
		return api.OK
	}
	kind := strings.TrimRight(rest, blankBytes)
	if !isKind(kind) {
		return api.ErrForm
	}
	c.family(metric).Kind = kind
	return api.OK
}

// family is where what is said of a metric is kept.
func (c *content) family(metric string) *api.Family {
	i, ok := c.places[metric]
	if !ok {
		i = len(c.families)
		c.places[metric] = i
		c.families = append(c.families, api.Family{Name: metric})
	}
	return &c.families[i]
}

// readRemark reads which word is said of which metric, and the rest of the line; false, if it is a mere remark.
func readRemark(s string) (word, metric, rest string, ok bool) {
	c := cursor{s: s}
	if !c.blanks() {
		return "", "", "", false
	}
	word = c.piece()
	if word != helpWord && word != typeWord || !c.blanks() {
		return "", "", "", false
	}
	metric = c.name(true)
	if !labels.RightMetric(metric) || !c.blanks() && !c.ended() {
		return "", "", "", false
	}
	return word, metric, s[c.at:], true
}

// isKind tells whether a metric may be of that kind.
func isKind(s string) bool {
	switch s {
	case "counter", "gauge", "histogram", "summary", "untyped":
		return true
	}
	return false
}

// helpText is a HELP text as it is meant; a backslash that is ahead of nothing it may be ahead of stands for itself.
func helpText(s string) string {
	var out strings.Builder
	for i := 0; i < len(s); i++ {
		b := s[i]
		if b == '\\' && i+1 < len(s) && (s[i+1] == '\\' || s[i+1] == 'n') {
			i++
			if s[i] == 'n' {
				b = '\n'
			}
		}
		out.WriteByte(b)
	}
	return out.String()
}
