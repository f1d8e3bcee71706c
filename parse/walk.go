package parse

import (
	"iter"
	"slices"

	"vigil/api"
)

// Depth is how deep it is.
func Depth(e api.Expr) int {
	most := 0
	for _, kid := range e.Kids {
		most = max(most, Depth(kid))
	}
	return 1 + most
}

// Walk tells all that is within an expression.
func Walk(e api.Expr) iter.Seq[api.Expr] {
	// The iterator may outlive the call, and what is handed in is not kept.
	e = clone(e)
	return func(yield func(api.Expr) bool) {
		for x := range each(e) {
			// Whoever changes what is told shall change nothing that is told later.
			if !yield(clone(x)) {
				return
			}
		}
	}
}

// Selectors are the selectors within it.
func Selectors(e api.Expr) []api.Expr {
	var out []api.Expr
	for x := range each(e) {
		if x.Kind == api.ESelector {
			out = append(out, clone(x))
		}
	}
	return out
}

// each tells e and all within it as they are, for use within a call.
func each(e api.Expr) iter.Seq[api.Expr] {
	return func(yield func(api.Expr) bool) { tell(e, yield) }
}

// tell is the iterator that calls itself for each kid; false, if it was stopped. All of it hands what it tells to one yield, so that what lies deep does not pass through as many loops.
func tell(e api.Expr, yield func(api.Expr) bool) bool {
	if !yield(e) {
		return false
	}
	for _, kid := range e.Kids {
		if !tell(kid, yield) {
			return false
		}
	}
	return true
}

// clone is e in memory of its own.
func clone(e api.Expr) api.Expr {
	e.Matchers = slices.Clone(e.Matchers)
	e.Names = slices.Clone(e.Names)
	e.Include = slices.Clone(e.Include)
	e.Kids = slices.Clone(e.Kids)
	for i, kid := range e.Kids {
		e.Kids[i] = clone(kid)
	}
	return e
}
