package regex_test

import (
	"fmt"

	"vigil/regex"
)

// The run that README.md tells.
func Example() {
	p, at, e := regex.Compile(`(\w+):(\d{1,5})`)
	fmt.Println(p.Match("node-1:9100"), p.Match("node:9100"), at, e)
	groups, ok := p.Groups("node:9100")
	fmt.Println(groups, ok)
	fmt.Println(regex.Expand("${2}@$1", "node:9100", groups))
	for i := range p.All([]string{"a:1", "b", "c:2"}) {
		fmt.Println(i)
	}
	fmt.Println(regex.Quote("a.b"))
	_, at, e = regex.Compile("a**")
	fmt.Println(at, e)
	// Output:
	// false true 0 0
	// [0 9 0 4 5 9] true
	// 9100@node
	// 0
	// 2
	// a\.b
	// 2 8
}
