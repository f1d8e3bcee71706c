package head_test

import (
	"fmt"

	"vigil/api"
	"vigil/head"
)

// The run that README.md tells.
func Example() {
	h := head.New(1000)
	up := []api.Label{{Name: "__name__", Value: "up"}, {Name: "job", Value: "node"}}
	batch := []api.Point{{Labels: up, T: 10, V: 1}, {Labels: up, T: 10, V: 0}, {Labels: up, T: 20, V: 0}}
	fmt.Println(h.Plan(batch))
	raw := h.Record(batch)
	fmt.Println(h.Commit(batch))
	job := []api.Matcher{{Kind: api.Match, Name: "job", Value: "n.*"}}
	fmt.Println(h.Select(job, 0, 100))
	fmt.Println(h.Delete(job, 0, 15))
	for s := range h.All() {
		fmt.Println(s)
	}
	fmt.Println(h.Cut(0, 20))
	fmt.Println(h.Last(up))
	other := head.New(1000)
	fmt.Println(other.Replay(raw), other.Newest(), other.Horizon())
	fmt.Println(other.Replay([]byte{1}))
	// Output:
	// [0 13 0]
	// 2
	// [{[{__name__ up} {job node}] [{10 1} {20 0}]}] 0
	// [{[{__name__ up} {job node}] 0 15}] 0
	// {[{__name__ up} {job node}] [{20 0}]}
	// [{[{__name__ up} {job node}] [{10 1}]}] [{[{__name__ up} {job node}] 10 10}]
	// {20 0} true
	// 0 20 -980
	// 8
}
