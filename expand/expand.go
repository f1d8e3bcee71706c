// Package expand fills templates with the groups of a match as far as a label's name or value may be long.
package expand

import (
	"strings"

	"vigil/api"
	"vigil/regex"
)

// Label is regex.Expand of these, if that is no longer than api.MaxLabel bytes; else a text that is longer than that too. It goes piece by piece, and no further than it must, since a template of many groups may come to more than any memory holds.
func Label(template, text string, groups []int) string {
	var out strings.Builder
	for template != "" && out.Len() <= api.MaxLabel {
		end := pieceEnd(template)
		out.WriteString(regex.Expand(template[:end], text, groups))
		template = template[end:]
	}
	return out.String()
}

// pieceEnd is the end of the template's first piece, which has one group at most: the place of the next $ that is not the second one of a pair.
func pieceEnd(template string) int {
	first := 1
	if strings.HasPrefix(template, "$$") {
		first = 2
	}
	if next := strings.IndexByte(template[first:], '$'); next >= 0 {
		return first + next
	}
	return len(template)
}
