package parse_test

import (
	"fmt"

	"vigil/parse"
)

// The run that README.md tells.
func Example() {
	e, at, why := parse.Parse(`sum(rate(http_total{code=~'5..'}[300s]))by(job) # errors
	/ 60`)
	fmt.Println(parse.Text(e), at, why)
	fmt.Println(parse.Type(e))
	fmt.Println(parse.Right(e), parse.Depth(e))
	for x := range parse.Walk(e) {
		fmt.Println(x.Kind, parse.Text(x))
	}
	for _, x := range parse.Selectors(e) {
		fmt.Println(parse.Text(x))
	}
	fmt.Println(parse.Matchers(`up{job="node"}`))
	for _, s := range []string{"up offset 5m offset 1h", "1 + nosuch(up)", "1 == 2", `{job=~".*"}`} {
		_, at, why := parse.Parse(s)
		fmt.Println(at, why)
	}
	// Output:
	// sum by (job) (rate(http_total{code=~"5.."}[5m])) / 60 0 0
	// 3 0
	// true 4
	// 6 sum by (job) (rate(http_total{code=~"5.."}[5m])) / 60
	// 7 sum by (job) (rate(http_total{code=~"5.."}[5m]))
	// 8 rate(http_total{code=~"5.."}[5m])
	// 3 http_total{code=~"5.."}[5m]
	// 1 60
	// http_total{code=~"5.."}[5m]
	// [{1 __name__ up} {1 job node}] 0 0
	// 13 8
	// 4 2
	// 0 10
	// 0 14
}
