package num_test

import (
	"fmt"

	"vigil/num"
)

// The run that README.md tells.
func Example() {
	v, e := num.Parse("1.50e3")
	fmt.Println(num.Text(v), e)
	fmt.Println(num.Text(0.1), num.Text(1e21))
	fmt.Println(num.Digits(-0.25))
	ms, e := num.Duration("1h30m")
	fmt.Println(ms, e, num.DurationText(90000), num.Seconds(1500))
	_, e = num.Int("007")
	fmt.Println(e)
	// Output:
	// 1500 0
	// 0.1 1e+21
	// 25 0 true
	// 5400000 0 1m30s 1.5
	// 8
}
