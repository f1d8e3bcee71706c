package chunk_test

import (
	"fmt"

	"vigil/chunk"
)

// The run that README.md tells.
func Example() {
	w := chunk.New()
	fmt.Println(w.Append(60000, 1.5), w.Append(120000, 1.5), w.Append(180000, 2))
	fmt.Println(w.Count(), len(w.Bytes()))
	for t, v := range chunk.All(w.Bytes()) {
		fmt.Println(t, v)
	}
	l, e := chunk.Decode(w.Bytes())
	fmt.Println(l, e)
	fmt.Println(chunk.Bits(l))
	fmt.Println(chunk.Decode([]byte{0, 1}))
	// Output:
	// 0 0 0
	// 3 30
	// 60000 1.5
	// 120000 1.5
	// 180000 2
	// [{60000 1.5} {120000 1.5} {180000 2}] 0
	// 239
	// [] 8
}
