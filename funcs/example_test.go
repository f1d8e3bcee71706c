package funcs_test

import (
	"fmt"
	"math"

	"vigil/api"
	"vigil/funcs"
	"vigil/labels"
	"vigil/scrape"
)

// The run that README.md tells.
func Example() {
	fmt.Println(funcs.Known("round"))
	fmt.Println(funcs.Math("round", []float64{2.34, 0.1}))
	fmt.Println(funcs.Math("round", []float64{2.34, 0.1, 1}))
	window := []api.Sample{{T: 10000, V: 0}, {T: 20000, V: 10}, {T: 25000, V: scrape.Stale()}}
	fmt.Println(funcs.Over("increase", window, 0, 0, 30000))
	fmt.Println(funcs.Over("quantile_over_time", window, 0.5, 0, 30000))
	fmt.Println(funcs.Over("sum_over_time", window, 0, 20000, 30000))
	for at, v := range funcs.Rate(window) {
		fmt.Println(at, v)
	}
	fmt.Println(funcs.Fold("avg", []float64{1, 2}, 0))
	fmt.Println(funcs.Quantile(0.25, []float64{1, 2}))
	fmt.Println(funcs.Bucket(0.5, []float64{1, 2, math.Inf(1)}, []float64{1, 3, 4}))
	fmt.Println(funcs.Part("days_in_month", 951782400))
	l, e := funcs.Replace([]api.Label{{Name: "a", Value: "xy"}}, "b", "$1", "a", "(.).")
	fmt.Println(labels.Text(l), e)
	joined, e := funcs.Join(l, "c", "-", []string{"a", "b"})
	fmt.Println(labels.Text(joined), e)
	fmt.Println(funcs.Join(l, "c", "-", []string{"0"}))
	fmt.Println(funcs.Arith("%", -5, 3), funcs.Holds("<=", 1, 2))
	series := []api.Series{{Labels: l, Samples: []api.Sample{{V: 1}}}, {Samples: []api.Sample{{V: 2}}}}
	for _, x := range funcs.Sorted(series, true) {
		fmt.Println(labels.Text(x.Labels), x.Samples[0].V)
	}
	// Output:
	// [3 1] 1 3 true
	// 2.3 true
	// 0 false
	// 20 true
	// 5 true
	// 0 false
	// 20000 10
	// 1.5 true
	// 1.25
	// 1.5
	// 29
	// {a="xy",b="x"} 0
	// {a="xy",b="x",c="xy-x"} 0
	// [] 2
	// -2 true
	// {} 2
	// {a="xy",b="x"} 1
}
