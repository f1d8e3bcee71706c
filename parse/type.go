package parse

import (
	"slices"

	"vigil/api"
	"vigil/funcs"
	"vigil/labels"
)

// noType is the type of what has none.
const noType = 0

// Type is an expression's type.
func Type(e api.Expr) (int, api.Errno) {
	var kids []int
	for _, kid := range e.Kids {
		t, why := Type(kid)
		if why != api.OK {
			return 0, why
		}
		kids = append(kids, t)
	}
	t := typeOf(e, kids)
	if t == noType {
		return 0, api.ErrType
	}
	return t, api.OK
}

// typeOf is the type of an expression whose kids are of those types.
func typeOf(e api.Expr, kids []int) int {
	switch e.Kind {
	case api.ENumber:
		return typeIf(len(kids) == 0, api.TScalar)
	case api.EString:
		return typeIf(len(kids) == 0, api.TString)
	case api.ESelector:
		if e.Range != 0 {
			return typeIf(len(kids) == 0, api.TMatrix)
		}
		return typeIf(len(kids) == 0, api.TVector)
	case api.ESubquery:
		return typeIf(areValues(kids, 1), api.TMatrix)
	case api.ENegate:
		if areValues(kids, 1) {
			return kids[0]
		}
	case api.EBinary:
		return binaryType(e, kids)
	case api.EAggregate:
		return aggregateType(e, kids)
	case api.ECall:
		return callType(e.Text, kids)
	}
	return noType
}

// typeIf is that type, if there is one at all.
func typeIf(ok bool, t int) int {
	if !ok {
		return noType
	}
	return t
}

// areValues tells whether there are so many kids, and all are vectors or scalars.
func areValues(kids []int, count int) bool {
	other := func(t int) bool { return t != api.TVector && t != api.TScalar }
	return len(kids) == count && !slices.ContainsFunc(kids, other)
}

// binaryType is the type of an EBinary.
func binaryType(e api.Expr, kids []int) int {
	if rowOf(e.Text) == noRow || !areValues(kids, 2) {
		return noType
	}
	vectors := kids[0] == api.TVector && kids[1] == api.TVector
	scalars := kids[0] == api.TScalar && kids[1] == api.TScalar
	shared := func(name string) bool { return slices.Contains(e.Include, name) }
	switch {
	case e.Bool && !isComparison(e.Text),
		scalars && isComparison(e.Text) && !e.Bool,
		!vectors && (joinsSets(e.Text) || e.Grouped || e.Card != api.OneToOne),
		e.Grouped && e.On && slices.ContainsFunc(e.Names, shared):
		return noType
	case scalars:
		return api.TScalar
	}
	return api.TVector
}

// aggregateType is the type of an EAggregate.
func aggregateType(e api.Expr, kids []int) int {
	if !isAggregation(e.Text) || !slices.Equal(kids, aggregated(e.Text)) {
		return noType
	}
	return typeIf(kids[0] != api.TString || labels.RightName(e.Kids[0].Text), api.TVector)
}

// callType is the type of an ECall.
func callType(name string, kids []int) int {
	args, least, result, ok := funcs.Known(name)
	if !ok || len(kids) < least || len(kids) > len(args) && name != "label_join" {
		return noType
	}
	for i, t := range kids {
		// What label_join takes beyond its arguments is of the kind of the last one.
		if t != args[min(i, len(args)-1)] {
			return noType
		}
	}
	return result
}
