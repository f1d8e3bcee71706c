package parse

import (
	"math"

	"vigil/api"
	"vigil/funcs"
)

// The greatest number behind an @, and the milliseconds that it stands for.
const (
	maxSeconds = 100000000000
	maxAt      = 1000 * maxSeconds
)

// expression reads operands and the operators between them, of that row or a tighter one.
func (r *reader) expression(loosest int) (api.Expr, api.Errno) {
	left, why := r.operand()
	for why == api.OK {
		op := r.token()
		if row := rowOf(op); row == noRow || row < loosest {
			return left, api.OK
		}
		left, why = r.operation(left, op)
	}
	return api.Expr{}, why
}

// operation reads an operator and its right operand.
func (r *reader) operation(left api.Expr, op string) (api.Expr, api.Errno) {
	r.skip(len(op))
	e := api.Expr{Kind: api.EBinary, Text: op}
	e.Bool = isComparison(op) && r.take("bool")
	if why := r.matching(&e); why != api.OK {
		return api.Expr{}, why
	}
	// Operators of the same row behind it take it as their left one.
	right, why := r.expression(rowOf(op) + 1)
	if why != api.OK {
		return api.Expr{}, why
	}
	e.Kids = []api.Expr{left, right}
	return e, api.OK
}

// matching reads which elements of two vectors an operator brings together.
func (r *reader) matching(e *api.Expr) (why api.Errno) {
	e.On = r.take("on")
	e.Grouped = e.On || r.take("ignoring")
	if e.Grouped {
		if e.Names, why = r.names(); why != api.OK {
			return why
		}
	}
	if joinsSets(e.Text) {
		return api.OK
	}
	switch {
	case r.take("group_left"):
		e.Card = api.GroupLeft
	case r.take("group_right"):
		e.Card = api.GroupRight
	}
	if e.Card != api.OneToOne && r.sees("(") {
		e.Include, why = r.names()
	}
	return why
}

// names reads names of labels in brackets.
func (r *reader) names() ([]string, api.Errno) {
	if !r.take("(") {
		return nil, api.ErrForm
	}
	var out []string
	why := r.list(")", false, func() api.Errno {
		name, why := r.labelName()
		out = append(out, name)
		return why
	})
	if why != api.OK {
		return nil, why
	}
	return out, api.OK
}

// list reads things, perhaps none, with commas between, and what closes them; a comma may stand behind the last one, if it is loose.
func (r *reader) list(closing string, loose bool, one func() api.Errno) api.Errno {
	for first := true; ; first = false {
		if (first || loose) && r.take(closing) {
			return api.OK
		}
		if why := one(); why != api.OK {
			return why
		}
		if r.take(closing) {
			return api.OK
		}
		if !r.take(",") {
			return api.ErrForm
		}
	}
}

// operand reads a primary with the signs ahead of it and what stands behind it.
func (r *reader) operand() (api.Expr, api.Errno) {
	if r.take("+") {
		return r.operand()
	}
	if r.take("-") {
		kid, why := r.operand()
		if why != api.OK {
			return api.Expr{}, why
		}
		return api.Expr{Kind: api.ENegate, Kids: []api.Expr{kid}}, api.OK
	}
	e, bare, why := r.primary()
	if why != api.OK {
		return api.Expr{}, why
	}
	return r.behind(e, bare)
}

// behind reads what stands behind a primary; it is bare, if it is a selector that stands in no brackets.
func (r *reader) behind(e api.Expr, bare bool) (api.Expr, api.Errno) {
	// An offset of 0 is one too, which the expression does not show.
	mayRange, mayMove, mayOffset := bare, bare, true
	why := api.OK
	for why == api.OK {
		switch {
		case r.take("["):
			e, why = r.window(e, mayRange)
			mayMove, mayOffset = true, true
		case mayMove && mayOffset && r.take("offset"):
			e.Offset, why = r.offset()
			mayOffset = false
		case mayMove && !e.HasAt && r.take("@"):
			e.HasAt = true
			e.At, why = r.seconds()
		default:
			return e, api.OK
		}
		mayRange = false
	}
	return api.Expr{}, why
}

// window reads what stands in square brackets behind an expression: a selector's range, if it may have one, or what makes a subquery of it.
func (r *reader) window(e api.Expr, mayRange bool) (api.Expr, api.Errno) {
	width, why := r.duration(1)
	if why != api.OK {
		return api.Expr{}, why
	}
	if mayRange && r.take("]") {
		e.Range = width
		return e, api.OK
	}
	if !r.takeColon() {
		return api.Expr{}, api.ErrForm
	}
	out := api.Expr{Kind: api.ESubquery, Range: width, Kids: []api.Expr{e}}
	if r.take("]") {
		return out, api.OK
	}
	if out.Step, why = r.duration(1); why != api.OK {
		return api.Expr{}, why
	}
	if !r.take("]") {
		return api.Expr{}, api.ErrForm
	}
	return out, api.OK
}

// offset reads what stands behind the word offset.
func (r *reader) offset() (int, api.Errno) {
	below := r.take("-")
	ms, why := r.duration(0)
	if below {
		ms = -ms
	}
	return ms, why
}

// seconds reads what stands behind an @.
func (r *reader) seconds() (int, api.Errno) {
	below := r.take("-")
	at := r.at
	v, ok := r.number()
	if !ok {
		return 0, api.ErrForm
	}
	// A NaN is not at most anything.
	if !(v <= maxSeconds) {
		r.at = at
		return 0, api.ErrForm
	}
	ms := int(math.Round(1000 * v))
	if below {
		ms = -ms
	}
	return ms, api.OK
}

// primary reads what stands by itself, and tells whether it is a selector.
func (r *reader) primary() (e api.Expr, bare bool, why api.Errno) {
	if v, ok := r.number(); ok {
		return api.Expr{Kind: api.ENumber, Num: v}, false, api.OK
	}
	if text, ok := r.text(); ok {
		return api.Expr{Kind: api.EString, Text: text}, false, api.OK
	}
	word := r.word()
	switch {
	case r.take("("):
		e, why = r.bracketed()
	case isAggregation(word):
		e, why = r.aggregation(word)
	case r.calls(word):
		e, why = r.call(word)
	default:
		e.Kind, bare = api.ESelector, true
		e.Matchers, why = r.selector()
	}
	if why != api.OK {
		return api.Expr{}, false, why
	}
	return e, bare, api.OK
}

// bracketed reads an expression and the bracket that closes it.
func (r *reader) bracketed() (api.Expr, api.Errno) {
	e, why := r.expression(orRow)
	if why != api.OK {
		return api.Expr{}, why
	}
	if !r.take(")") {
		return api.Expr{}, api.ErrForm
	}
	return e, api.OK
}

// calls tells whether a word that is next is a function's name.
func (r *reader) calls(word string) bool {
	if word == "" || isReserved(word) {
		return false
	}
	ahead := *r
	ahead.skip(len(word))
	return ahead.sees("(")
}

// call reads a function's name and its arguments.
func (r *reader) call(name string) (api.Expr, api.Errno) {
	if _, _, _, ok := funcs.Known(name); !ok {
		return api.Expr{}, api.ErrName
	}
	r.skip(len(name))
	kids, why := r.arguments()
	if why != api.OK {
		return api.Expr{}, why
	}
	return api.Expr{Kind: api.ECall, Text: name, Kids: kids}, api.OK
}

// aggregation reads an aggregation, with its names ahead or behind.
func (r *reader) aggregation(name string) (api.Expr, api.Errno) {
	r.skip(len(name))
	e := api.Expr{Kind: api.EAggregate, Text: name}
	why := r.grouping(&e)
	if why != api.OK {
		return api.Expr{}, why
	}
	if e.Kids, why = r.arguments(); why != api.OK {
		return api.Expr{}, why
	}
	if !e.Grouped {
		why = r.grouping(&e)
	}
	if why != api.OK {
		return api.Expr{}, why
	}
	return e, api.OK
}

// grouping reads by which names elements are aggregated, if it is said.
func (r *reader) grouping(e *api.Expr) (why api.Errno) {
	e.By = r.take("by")
	e.Grouped = e.By || r.take("without")
	if e.Grouped {
		e.Names, why = r.names()
	}
	return why
}

// arguments reads expressions in brackets.
func (r *reader) arguments() ([]api.Expr, api.Errno) {
	if !r.take("(") {
		return nil, api.ErrForm
	}
	var out []api.Expr
	why := r.list(")", false, func() api.Errno {
		kid, why := r.expression(orRow)
		out = append(out, kid)
		return why
	})
	if why != api.OK {
		return nil, why
	}
	return out, api.OK
}

// selector reads a metric's name, matchers, or both.
func (r *reader) selector() ([]api.Matcher, api.Errno) {
	var out []api.Matcher
	if word := r.word(); word != "" {
		if isReserved(word) {
			return nil, api.ErrForm
		}
		out = append(out, api.Matcher{Kind: api.Equal, Name: metricLabel, Value: word})
		r.skip(len(word))
	} else if !r.sees("{") {
		return nil, api.ErrForm
	}
	if !r.take("{") {
		return out, api.OK
	}
	why := r.list("}", true, func() api.Errno {
		m, why := r.matcher()
		out = append(out, m)
		return why
	})
	if why != api.OK {
		return nil, why
	}
	return out, api.OK
}

// matcher reads one matcher.
func (r *reader) matcher() (api.Matcher, api.Errno) {
	name, why := r.labelName()
	if why != api.OK {
		return api.Matcher{}, why
	}
	sign := r.sign()
	kind, ok := kindOf(sign)
	if !ok {
		return api.Matcher{}, api.ErrForm
	}
	r.skip(len(sign))
	value, ok := r.text()
	if !ok {
		return api.Matcher{}, api.ErrForm
	}
	return api.Matcher{Kind: kind, Name: name, Value: value}, api.OK
}
