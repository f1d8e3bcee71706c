package expo_test

import (
	"fmt"

	"vigil/expo"
)

// The run that README.md tells.
func Example() {
	body := []byte("# TYPE up gauge\n# HELP up is it there\nup{job=\"node\"} 1 60000\n\ndown 0\n")
	lines, families, at, e := expo.Read(body, 100)
	fmt.Println(lines, families, at, e)
	for n, s := range expo.Lines(body) {
		fmt.Printf("%d %q\n", n, s)
	}
	fmt.Print(string(expo.Text(lines)))
	fmt.Println(expo.Read(body, 1))
	fmt.Println(expo.ReadLine(`up{job="node",job="x"} 1`))
	fmt.Println(expo.ReadLine(`up{job=node} 1`))
	fmt.Println(expo.Escape(`a"b`))
	// Output:
	// [{[{__name__ up} {job node}] 1 60000 true} {[{__name__ down}] 0 0 false}] [{up gauge is it there}] 0 0
	// 1 "# TYPE up gauge"
	// 2 "# HELP up is it there"
	// 3 "up{job=\"node\"} 1 60000"
	// 4 ""
	// 5 "down 0"
	// up{job="node"} 1 60000
	// down 0
	// [] [] 5 11
	// {[] 0 0 false} 14 13
	// {[] 0 0 false} 7 8
	// a\"b
}
