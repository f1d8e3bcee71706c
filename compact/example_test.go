package compact_test

import (
	"fmt"

	"vigil/api"
	"vigil/compact"
)

// The run that README.md tells.
func Example() {
	fmt.Println(compact.Floor(-1, 10))
	fmt.Println(compact.Cuts([]int{1, 12, 13, 27}, 30, 10))
	metas := []api.Meta{{Name: "b1", Min: 0, Max: 10}, {Name: "b2", Min: 10, Max: 20}, {Name: "b3", Min: 30, Max: 40}}
	names := compact.Plan(metas, 40, 10)
	fmt.Println(names)
	fmt.Println(compact.Joined(metas, names))
	fmt.Println(compact.Removed(metas, 10))
	up := []api.Label{{Name: "__name__", Value: "up"}}
	a := []api.Series{{Labels: up, Samples: []api.Sample{{T: 1, V: 1}, {T: 3, V: 3}}}}
	b := []api.Series{{Labels: up, Samples: []api.Sample{{T: 2, V: 2}, {T: 3, V: 9}}}}
	for s := range compact.Merge(a, b) {
		fmt.Println(s)
	}
	l := compact.Collect(compact.Merge(a, b))
	fmt.Println(compact.Span(l))
	gone := []api.Gone{{Labels: up, Min: 2, Max: 4}, {Labels: up, Min: 5, Max: 6}}
	fmt.Println(compact.Less(l, gone))
	fmt.Println(compact.Union(gone))
	// Output:
	// -10
	// [0 10]
	// [b1 b2]
	// { 0 20 1} true
	// [b1]
	// {[{__name__ up}] [{1 1} {2 2} {3 3}]}
	// 1 3 true
	// [{[{__name__ up}] [{1 1}]}]
	// [{[{__name__ up}] 2 6}]
}
