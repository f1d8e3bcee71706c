package tsdb_test

import (
	"fmt"

	"vigil/api"
	"vigil/disk"
	"vigil/tsdb"
)

// The run that README.md tells.
func Example() {
	d := disk.New(10000)
	store := api.Store{Block: 100, Retention: 1000}
	b, e := tsdb.Open(d, store)
	up := []api.Label{{Name: "__name__", Value: "up"}, {Name: "job", Value: "node"}}
	batch := []api.Point{{Labels: up, T: 10, V: 1}, {Labels: up, T: 10, V: 0}, {Labels: up, T: 20, V: 0}}
	fmt.Println(e)
	fmt.Println(b.Append(batch, []api.Label{{Name: "seen", Value: "yes"}}))
	d.Fault(0, 1)
	fmt.Println(b.Append([]api.Point{{Labels: up, T: 30, V: 1}}, nil))
	fmt.Println(b.ReadOnly())
	fmt.Println(b.Append([]api.Point{{Labels: up, T: 300, V: 1}}, nil))
	fmt.Println(b.ReadOnly())
	d.Crash(nil)
	b, _ = tsdb.Open(d, store)
	fmt.Println(b.State("seen"), b.Keys(), b.Names(), b.Values("job"))
	fmt.Println(b.Maintain(), b.Blocks())
	job := []api.Matcher{{Kind: api.Match, Name: "job", Value: "n.*"}}
	fmt.Println(b.Select(job, 0, 1000))
	fmt.Println(b.Delete(job, 0, 15))
	for s := range b.All() {
		fmt.Println(s)
	}
	fmt.Println(b.Last(up))
	fmt.Println(b.Newest(), b.Horizon())
	// Output:
	// 0
	// [0 13 0] 0
	// [0] 6
	// true
	// [0] 0
	// false
	// yes [seen] [__name__ job] [node]
	// 0 [{b1 0 100 0}]
	// [{[{__name__ up} {job node}] [{10 1} {20 0} {300 1}]}] 0
	// 1 0
	// {[{__name__ up} {job node}] [{20 0} {300 1}]}
	// {300 1} true
	// 300 -700
}
