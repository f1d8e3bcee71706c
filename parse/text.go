package parse

import (
	"strings"

	"vigil/api"
	"vigil/labels"
	"vigil/num"
)

// Text writes an expression.
func Text(e api.Expr) string {
	if !Right(e) {
		return ""
	}
	return text(e)
}

// text writes a right expression.
func text(e api.Expr) string {
	switch e.Kind {
	case api.ENumber:
		// A sign would be an operand's.
		return strings.TrimPrefix(num.Text(e.Num), "+")
	case api.EString:
		return quote(e.Text)
	case api.ESelector:
		return selectorText(e) + movedText(e)
	case api.ESubquery:
		return subqueryText(e) + movedText(e)
	case api.ENegate:
		return "-" + bracketedIf(isComposed(e.Kids[0]), e.Kids[0])
	case api.EBinary:
		return binaryText(e)
	case api.EAggregate:
		return aggregateText(e)
	}
	return e.Text + kidsText(e.Kids)
}

// isComposed tells whether an expression would fall apart between other signs.
func isComposed(e api.Expr) bool { return e.Kind == api.EBinary || e.Kind == api.ENegate }

// bracketedIf writes an expression, with brackets if it must have them.
func bracketedIf(must bool, e api.Expr) string {
	if must {
		return "(" + text(e) + ")"
	}
	return text(e)
}

// selectorText writes a selector without what moves its window.
func selectorText(e api.Expr) string {
	name, others := "", e.Matchers
	if m := e.Matchers[0]; m.Kind == api.Equal && m.Name == metricLabel && labels.RightMetric(m.Value) && !isReserved(m.Value) {
		name, others = m.Value, e.Matchers[1:]
	}
	out := name
	if name == "" || len(others) > 0 {
		out += "{" + matchersText(others) + "}"
	}
	if e.Range != 0 {
		out += "[" + num.DurationText(e.Range) + "]"
	}
	return out
}

// matchersText writes matchers with commas between.
func matchersText(l []api.Matcher) string {
	var out []string
	for _, m := range l {
		out = append(out, m.Name+signOf(m.Kind)+quote(m.Value))
	}
	return strings.Join(out, ",")
}

// subqueryText writes a subquery without what moves its window.
func subqueryText(e api.Expr) string {
	kid := e.Kids[0]
	must := isComposed(kid) || kid.Kind == api.ENumber || kid.Kind == api.ESubquery || kid.Kind == api.ESelector
	step := ""
	if e.Step != 0 {
		step = num.DurationText(e.Step)
	}
	return bracketedIf(must, kid) + "[" + num.DurationText(e.Range) + ":" + step + "]"
}

// movedText writes what moves a window.
func movedText(e api.Expr) string {
	out := ""
	if e.HasAt {
		out += " @ " + num.Seconds(e.At)
	}
	if e.Offset != 0 {
		out += " offset " + num.DurationText(e.Offset)
	}
	return out
}

// binaryText writes an operator with its operands.
func binaryText(e api.Expr) string {
	sign := " " + e.Text
	if e.Bool {
		sign += " bool"
	}
	if e.Grouped {
		sign += chosen(e.On, " on ", " ignoring ") + namesText(e.Names)
	}
	if e.Card != api.OneToOne {
		sign += chosen(e.Card == api.GroupLeft, " group_left ", " group_right ") + namesText(e.Include)
	}
	left, right := e.Kids[0], e.Kids[1]
	return bracketedIf(isComposed(left), left) + sign + " " + bracketedIf(isComposed(right), right)
}

// aggregateText writes an aggregation.
func aggregateText(e api.Expr) string {
	out := e.Text
	if e.Grouped {
		out += chosen(e.By, " by ", " without ") + namesText(e.Names) + " "
	}
	return out + kidsText(e.Kids)
}

// chosen is the first text, if that is meant, else the second one.
func chosen(first bool, a, b string) string {
	if first {
		return a
	}
	return b
}

// namesText writes names of labels in brackets.
func namesText(l []string) string { return "(" + strings.Join(l, ", ") + ")" }

// kidsText writes expressions in brackets.
func kidsText(l []api.Expr) string {
	var out []string
	for _, kid := range l {
		out = append(out, text(kid))
	}
	return namesText(out)
}

// quote writes a string.
func quote(s string) string {
	var out strings.Builder
	out.WriteByte('"')
	for i := range len(s) {
		switch b := s[i]; b {
		case '\\', '"':
			out.WriteByte('\\')
			out.WriteByte(b)
		case '\n':
			out.WriteString(`\n`)
		case '\t':
			out.WriteString(`\t`)
		case '\r':
			out.WriteString(`\r`)
		default:
			out.WriteByte(b)
		}
	}
	out.WriteByte('"')
	return out.String()
}
