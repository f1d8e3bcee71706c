package scrape_test

import (
	"fmt"

	"vigil/api"
	"vigil/labels"
	"vigil/scrape"
)

// The run that README.md tells.
func Example() {
	zone := api.Relabel{Action: api.Replace, Sources: []string{"__meta_zone"}, Regex: "(.)-(.*)", Target: "zone", Replacement: "$2"}
	noise := api.Relabel{Action: api.Drop, Sources: []string{"__name__"}, Regex: "go_.*"}
	fmt.Println(scrape.Right(zone), scrape.Right(api.Relabel{Action: api.Keep, Regex: "("}))
	l, ok := scrape.Relabel([]api.Label{{Name: "__meta_zone", Value: "z-1"}}, []api.Relabel{zone})
	fmt.Println(labels.Text(l), ok)
	j := api.Job{
		Name: "node", Interval: 60000, Relabel: []api.Relabel{zone}, Metric: []api.Relabel{noise},
		Targets: [][]api.Label{{{Name: "__address__", Value: "a:9100"}, {Name: "__meta_zone", Value: "z-1"}}},
	}
	fmt.Println(scrape.Check(j))
	t := scrape.Targets(j)[0]
	fmt.Println(labels.Text(t.Labels), t.URL, t.Offset)
	fmt.Println(scrape.Due(t, j.Interval, 0, 150000))
	for at := range scrape.Steps(t, j.Interval, 0, 150000) {
		fmt.Println(at)
	}
	batch, now, at, e := scrape.Batch(j, t, 60000, []byte("m{job=\"x\"} 1\ngo_threads 8\n"), nil)
	for _, p := range batch {
		fmt.Println(labels.Text(p.Labels), p.T, p.V)
	}
	fmt.Println(labels.Text(now[0]), at, e)
	fmt.Println(scrape.Batch(j, t, 120000, []byte("m 1\nm x\n"), now))
	for _, p := range scrape.Failure(j, t, 120000, now)[:2] {
		fmt.Println(labels.Text(p.Labels), p.T, scrape.IsStale(p.V))
	}
	// Output:
	// true false
	// {__meta_zone="z-1",zone="1"} true
	// 0
	// {instance="a:9100",job="node",zone="1"} http://a:9100/metrics 47885
	// 107885 true
	// 47885
	// 107885
	// m{exported_job="x",instance="a:9100",job="node",zone="1"} 60000 1
	// up{instance="a:9100",job="node",zone="1"} 60000 1
	// scrape_samples_scraped{instance="a:9100",job="node",zone="1"} 60000 2
	// scrape_samples_kept{instance="a:9100",job="node",zone="1"} 60000 1
	// scrape_series_added{instance="a:9100",job="node",zone="1"} 60000 1
	// m{exported_job="x",instance="a:9100",job="node",zone="1"} 0 0
	// [] [] 2 8
	// m{exported_job="x",instance="a:9100",job="node",zone="1"} 120000 true
	// up{instance="a:9100",job="node",zone="1"} 120000 false
}
