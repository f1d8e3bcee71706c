package parse

import (
	"strings"

	"vigil/api"
)

// metricLabel is the Name of the label whose Value is the metric's name.
const metricLabel = "__name__"

// The rows of operators, from the loosest on; what is no operator stands in noRow.
const (
	noRow = iota
	orRow
	andRow
	comparisonRow
	sumRow
	productRow
)

// rowOf is the row in which an operator stands.
func rowOf(op string) int {
	switch op {
	case "or":
		return orRow
	case "and", "unless":
		return andRow
	case "==", "!=", "<", "<=", ">", ">=":
		return comparisonRow
	case "+", "-":
		return sumRow
	case "*", "/", "%":
		return productRow
	}
	return noRow
}

// isComparison tells whether bool may stand behind an operator.
func isComparison(op string) bool { return rowOf(op) == comparisonRow }

// joinsSets tells whether an operator is one of those that take elements as they are, and never several for one.
func joinsSets(op string) bool { return rowOf(op) == orRow || rowOf(op) == andRow }

// aggregated is the types of an aggregation's kids; none, if there is no aggregation of that name.
func aggregated(name string) []int {
	switch name {
	case "sum", "avg", "min", "max", "count", "group", "stddev", "stdvar":
		return []int{api.TVector}
	case "topk", "bottomk", "quantile":
		return []int{api.TScalar, api.TVector}
	case "count_values":
		return []int{api.TString, api.TVector}
	}
	return nil
}

// isAggregation tells whether a word is the name of an aggregation.
func isAggregation(word string) bool { return len(aggregated(word)) > 0 }

// isNumber tells whether a word is a number.
func isNumber(word string) bool {
	low := strings.ToLower(word)
	return low == "inf" || low == "nan"
}

// isReserved tells whether a word is neither a metric's name nor a function's.
func isReserved(word string) bool {
	switch word {
	case "and", "or", "unless", "by", "without", "on", "ignoring", "group_left", "group_right", "bool", "offset":
		return true
	}
	return isAggregation(word) || isNumber(word)
}

// signOf is how a matcher of that kind is written; empty, if there is no such kind.
func signOf(kind int) string {
	switch kind {
	case api.Equal:
		return "="
	case api.NotEqual:
		return "!="
	case api.Match:
		return "=~"
	case api.NotMatch:
		return "!~"
	}
	return ""
}

// kindOf is the kind of the matchers that have that sign; false, if none have.
func kindOf(sign string) (int, bool) {
	for kind := api.Equal; kind <= api.NotMatch; kind++ {
		if signOf(kind) == sign {
			return kind, true
		}
	}
	return 0, false
}
