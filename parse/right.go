package parse

import (
	"math"
	"slices"
	"unicode/utf8"

	"vigil/api"
	"vigil/labels"
	"vigil/num"
	"vigil/regex"
)

// Right: could it have been read?
func Right(e api.Expr) bool {
	if fault(e) != api.OK {
		return false
	}
	for x := range each(e) {
		if !isZero(uncounted(x)) || !hasRightFields(x) {
			return false
		}
	}
	return true
}

// sound tells whether matchers may stand together in a selector.
func sound(l []api.Matcher) bool {
	names, narrow := 0, false
	for _, m := range l {
		empty, ok := meansEmpty(m)
		if !ok {
			return false
		}
		narrow = narrow || !empty
		if m.Kind == api.Equal && m.Name == metricLabel {
			names++
		}
	}
	return narrow && names <= 1
}

// meansEmpty tells whether the empty value satisfies a matcher; false and false, if its regular expression is refused.
func meansEmpty(m api.Matcher) (empty, ok bool) {
	if m.Kind == api.Equal || m.Kind == api.NotEqual {
		return (m.Value == "") == (m.Kind == api.Equal), true
	}
	prog, _, why := regex.Compile(m.Value)
	if why != api.OK {
		return false, false
	}
	return prog.Match("") == (m.Kind == api.Match), true
}

// uncounted is e without the fields that count in an expression of its kind.
func uncounted(e api.Expr) api.Expr {
	switch e.Kind {
	case api.ENumber:
		e.Num = 0
	case api.EString:
		e.Text = ""
	case api.ESelector:
		e.Matchers, e.Range = nil, 0
		e.Offset, e.HasAt, e.At = 0, false, 0
	case api.ESubquery:
		e.Kids, e.Range, e.Step = nil, 0, 0
		e.Offset, e.HasAt, e.At = 0, false, 0
	case api.ENegate:
		e.Kids = nil
	case api.EBinary:
		e.Text, e.Kids, e.Bool = "", nil, false
		e.Grouped, e.On, e.Names = false, false, nil
		e.Card, e.Include = 0, nil
	case api.EAggregate:
		e.Text, e.Kids = "", nil
		e.Grouped, e.By, e.Names = false, false, nil
	case api.ECall:
		e.Text, e.Kids = "", nil
	}
	return e
}

// isZero tells whether all fields but the Kind are zero.
func isZero(e api.Expr) bool {
	switch {
	case math.Float64bits(e.Num) != 0, e.Text != "",
		e.Range != 0, e.Step != 0, e.Offset != 0, e.HasAt, e.At != 0,
		e.Bool, e.On, e.By, e.Grouped, e.Card != 0:
		return false
	}
	return len(e.Matchers)+len(e.Names)+len(e.Include)+len(e.Kids) == 0
}

// hasRightFields tells whether the fields that count in an expression, without its kids, are as Parse makes them.
func hasRightFields(e api.Expr) bool {
	switch e.Kind {
	case api.ENumber:
		return isRightNumber(e.Num)
	case api.EString:
		return utf8.ValidString(e.Text)
	case api.ESelector:
		return isWithin(e.Range, 0, api.MaxTime) && isRightlyMoved(e) && areRightMatchers(e.Matchers)
	case api.ESubquery:
		return isWithin(e.Range, 1, api.MaxTime) && isWithin(e.Step, 0, api.MaxTime) && isRightlyMoved(e)
	case api.EBinary:
		return isRightlyMatched(e)
	case api.EAggregate:
		return areRightNames(e.Names) && (e.Grouped || !e.By && len(e.Names) == 0)
	}
	return true
}

// isRightNumber tells whether a number can be read without a sign.
func isRightNumber(v float64) bool {
	if math.IsNaN(v) {
		nan, _ := num.Parse("nan")
		return num.Same(v, nan)
	}
	return !math.Signbit(v)
}

// isRightlyMoved tells whether Offset and At are as they may be.
func isRightlyMoved(e api.Expr) bool {
	return isWithin(e.Offset, -api.MaxTime, api.MaxTime) && isWithin(e.At, -maxAt, maxAt) && (e.HasAt || e.At == 0)
}

// isRightlyMatched tells whether what an operator says of vectors is as it may be.
func isRightlyMatched(e api.Expr) bool {
	switch {
	case !areRightNames(e.Names), !areRightNames(e.Include), !isWithin(e.Card, api.OneToOne, api.GroupRight):
		return false
	case !e.Grouped && (e.On || len(e.Names) > 0):
		return false
	case e.Card == api.OneToOne:
		return len(e.Include) == 0
	}
	return !joinsSets(e.Text)
}

// areRightNames tells whether all names are right label names.
func areRightNames(l []string) bool {
	wrong := func(name string) bool { return !labels.RightName(name) }
	return !slices.ContainsFunc(l, wrong)
}

// areRightMatchers tells whether each matcher can be read.
func areRightMatchers(l []api.Matcher) bool {
	wrong := func(m api.Matcher) bool {
		return signOf(m.Kind) == "" || !labels.RightName(m.Name) || !utf8.ValidString(m.Value)
	}
	return !slices.ContainsFunc(l, wrong)
}

// isWithin tells whether n is neither below least nor above most.
func isWithin(n, least, most int) bool { return least <= n && n <= most }
