package block_test

import (
	"fmt"

	"vigil/api"
	"vigil/block"
	"vigil/disk"
)

// The run that README.md tells.
func Example() {
	d := disk.New(10000)
	up := []api.Label{{Name: "__name__", Value: "up"}, {Name: "job", Value: "node"}}
	meta := api.Meta{Name: "b1", Min: 0, Max: 100}
	series := []api.Series{{Labels: up, Samples: []api.Sample{{T: 10, V: 1}, {T: 20, V: 0}}}}
	gone := []api.Gone{{Labels: up, Min: 0, Max: 15}}
	fmt.Println(block.Right(meta, series, gone))
	d.Stop(4)
	fmt.Println(block.Write(d, meta, series, gone), block.List(d))
	d.Crash(nil)
	fmt.Println(block.List(d))
	fmt.Println(block.Write(d, meta, series, gone), block.Write(d, meta, nil, nil))
	d.Crash(nil)
	fmt.Println(block.List(d))
	b, e := block.Open(d, "b1")
	fmt.Println(e, b.Meta(), b.Gone())
	for s := range b.All() {
		fmt.Println(s)
	}
	l, e := b.Find([]api.Matcher{{Kind: api.Match, Name: "job", Value: "n.*"}})
	fmt.Println(len(l), e)
	fmt.Println(block.Remove(d, "b1"))
	_, e = block.Open(d, "b1")
	fmt.Println(e, len(b.Series()))
	// Output:
	// true
	// 7 []
	// []
	// 0 4
	// [b1]
	// 0 {b1 0 100 0} [{[{__name__ up} {job node}] 0 15}]
	// {[{__name__ up} {job node}] [{10 1} {20 0}]}
	// 1 0
	// 0
	// 3 1
}
