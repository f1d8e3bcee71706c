package funcs

import "vigil/api"

// Known is what a function takes and gives.
func Known(name string) (args []int, least int, result int, ok bool) {
	switch name {
	case "abs", "ceil", "floor", "sqrt", "sgn", "sort", "sort_desc", "absent", "timestamp":
		return []int{api.TVector}, 1, api.TVector, true
	case "round":
		return []int{api.TVector, api.TScalar}, 1, api.TVector, true
	case "clamp":
		return []int{api.TVector, api.TScalar, api.TScalar}, 3, api.TVector, true
	case "clamp_min", "clamp_max":
		return []int{api.TVector, api.TScalar}, 2, api.TVector, true
	case "rate", "increase", "delta", "irate", "idelta", "resets", "changes",
		"avg_over_time", "sum_over_time", "min_over_time", "max_over_time", "count_over_time", "last_over_time",
		"present_over_time", "stddev_over_time", "stdvar_over_time", "absent_over_time":
		return []int{api.TMatrix}, 1, api.TVector, true
	case "quantile_over_time":
		return []int{api.TScalar, api.TMatrix}, 2, api.TVector, true
	case "histogram_quantile":
		return []int{api.TScalar, api.TVector}, 2, api.TVector, true
	case "label_replace":
		return []int{api.TVector, api.TString, api.TString, api.TString, api.TString}, 5, api.TVector, true
	case "label_join":
		return []int{api.TVector, api.TString, api.TString, api.TString}, 4, api.TVector, true
	case "scalar":
		return []int{api.TVector}, 1, api.TScalar, true
	case "vector":
		return []int{api.TScalar}, 1, api.TVector, true
	case "time":
		return nil, 0, api.TScalar, true
	case "minute", "hour", "day_of_week", "day_of_month", "day_of_year", "days_in_month", "month", "year":
		return []int{api.TVector}, 0, api.TVector, true
	}
	return nil, 0, 0, false
}
