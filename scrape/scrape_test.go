package scrape_test

import (
	"fmt"
	"math"
	"strings"
	"testing"

	"vigil/api"
	"vigil/expo"
	"vigil/labels"
	"vigil/num"
	"vigil/scrape"
)

// set is a set of words like a=1, of which the text has one behind the other.
func set(text string) []api.Label {
	var l []api.Label
	for _, word := range strings.Fields(text) {
		name, value, _ := strings.Cut(word, "=")
		l = append(l, api.Label{Name: name, Value: value})
	}
	l, e := labels.New(l)
	if e != api.OK {
		panic("no set: " + text)
	}
	return l
}

// sets is a list of sets.
func sets(texts ...string) [][]api.Label {
	var l [][]api.Label
	for _, text := range texts {
		l = append(l, set(text))
	}
	return l
}

// numbered is that many labels, n000=x and on.
func numbered(count int) []api.Label {
	var l []api.Label
	for i := range count {
		l = append(l, api.Label{Name: fmt.Sprintf("n%03d", i), Value: "x"})
	}
	return l
}

// spelt is labels as set reads them.
func spelt(l []api.Label) string {
	var out []string
	for _, x := range l {
		out = append(out, x.Name+"="+x.Value)
	}
	return strings.Join(out, " ")
}

func speltSets(l [][]api.Label) string {
	var out []string
	for _, x := range l {
		out = append(out, spelt(x))
	}
	return strings.Join(out, "; ")
}

// speltPoints is points as their labels, time and value.
func speltPoints(l []api.Point) string {
	var out []string
	for _, p := range l {
		v := num.Text(p.V)
		if math.Float64bits(p.V) == 0x7ff0000000000002 {
			v = "stale"
		}
		out = append(out, fmt.Sprint(strings.TrimSpace(spelt(p.Labels)+" "), " ", p.T, " ", v))
	}
	return strings.Join(out, "; ")
}

// wantRelabel does rules with a set that must be left, or go (gone).
func wantRelabel(t *testing.T, l []api.Label, want string, rules ...api.Relabel) {
	t.Helper()
	const gone = "gone"
	got, ok := scrape.Relabel(l, rules)
	if ok != (want != gone) || ok && spelt(got) != want || !ok && len(got) > 0 {
		t.Errorf("Relabel(%v, %v) is %.300q, %v; want %.300q", l, rules, spelt(got), ok, want)
	}
}

// read is a sample line.
func read(s string) api.Line {
	line, _, e := expo.ReadLine(s)
	if e != api.OK {
		panic("no line: " + s)
	}
	return line
}

// P12.1 to P12.7: the chapter's Runs.
func TestRuns(t *testing.T) {
	wantRelabel(t, set("a=1 b=2"), "a=1 b=2 c=21", api.Relabel{Action: api.Replace, Sources: []string{"a", "b"}, Separator: "-", Regex: "(.*)-(.*)", Target: "c", Replacement: "$2$1"})
	wantRelabel(t, set("a=2"), "gone", api.Relabel{Action: api.Keep, Regex: "1", Sources: []string{"a"}})
	wantRelabel(t, set("x_a=1"), "a=1 x_a=1", api.Relabel{Action: api.LabelMap, Regex: "x_(.*)", Replacement: "$1"})
	wantRelabel(t, set("a=1 b=2"), "b=2", api.Relabel{Action: api.LabelDrop, Regex: "a"})
	wantRelabel(t, set("b=xY"), "b=xY c=XY", api.Relabel{Action: api.Upper, Sources: []string{"b"}, Target: "c"})

	targets := scrape.Targets(api.Job{Name: "j", Interval: 10, Targets: sets("__address__=h:1")})
	if len(targets) != 1 || spelt(targets[0].Labels) != "instance=h:1 job=j" || targets[0].URL != "http://h:1/metrics" {
		t.Error("Targets", targets)
	}
	wantDue(t, 3, 10, 0, 20, 13, true)
	wantDue(t, 3, 10, 3, 12, 0, false)
	wantDue(t, 3, 10, 5, 5, 0, false)

	j := api.Target{Job: "j", Labels: set("job=j")}
	wantSeries(t, api.Job{Honor: true}, j, read(`m{job="x"} 1`), "__name__=m job=x 0 1")
	wantSeries(t, api.Job{}, j, read(`m{job="x"} 1`), "__name__=m exported_job=x job=j 0 1")

	batch, now, at, e := scrape.Batch(api.Job{}, api.Target{}, 7, []byte("m 1"), sets("__name__=n"))
	if want := "__name__=m 7 1; __name__=n 7 stale; __name__=up 7 1; __name__=scrape_samples_scraped 7 1; __name__=scrape_samples_kept 7 1; __name__=scrape_series_added 7 1"; speltPoints(batch) != want || at != 0 || e != api.OK {
		t.Error("Batch", speltPoints(batch), at, e)
	}
	if got, want := speltPoints(scrape.Failure(api.Job{}, api.Target{}, 8, now)), "__name__=m 8 stale; __name__=up 8 0; __name__=scrape_samples_scraped 8 0; __name__=scrape_samples_kept 8 0; __name__=scrape_series_added 8 0"; got != want {
		t.Error("Failure", got)
	}
}

// P12.3, P12.5, P12.7: the chapter's Examples.
func TestExamples(t *testing.T) {
	noName := api.Relabel{Action: api.Replace, Target: "__name__"}
	wantNoSeries(t, api.Job{Metric: []api.Relabel{noName}}, api.Target{}, read("m 1"))
	if scrape.IsStale(math.NaN()) {
		t.Error("another NaN is stale")
	}
	if l := scrape.Targets(api.Job{Name: "j", Interval: 1}); len(l) != 0 {
		t.Error("Targets of no lists", l)
	}
}
