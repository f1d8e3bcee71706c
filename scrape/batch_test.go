package scrape_test

import (
	"bytes"
	"fmt"
	"math"
	"strings"
	"testing"

	"vigil/api"
	"vigil/labels"
	"vigil/scrape"
)

func wantSeries(t *testing.T, j api.Job, target api.Target, line api.Line, want string) {
	t.Helper()
	p, ok := scrape.Series(j, target, line)
	if !ok || speltPoints([]api.Point{p}) != want {
		t.Errorf("Series of %v for %v is %.300q, %v; want %.300q", line, target, speltPoints([]api.Point{p}), ok, want)
	}
}

func wantNoSeries(t *testing.T, j api.Job, target api.Target, line api.Line) {
	t.Helper()
	if p, ok := scrape.Series(j, target, line); ok || len(p.Labels) > 0 || p.T != 0 || p.V != 0 {
		t.Errorf("Series of %v for %v is %v, %v; want none", line, target, p, ok)
	}
}

// of is a line of that metric with labels.
func of(text string) api.Line { return api.Line{Labels: set("__name__=m " + text), V: 1} }

// P12.5: the labels of a line and of a target.
func TestSeriesLabels(t *testing.T) {
	for _, x := range []struct {
		line, target, honor, exported string
	}{
		{"", "", "", ""},
		{"a=1", "", "a=1", "a=1"},
		{"", "a=1", "a=1", "a=1"},
		{"b=1", "a=1 c=2", "a=1 b=1 c=2", "a=1 b=1 c=2"},
		{"a=1", "a=2", "a=1", "a=2 exported_a=1"},
		{"a=1", "a=1", "a=1", "a=1 exported_a=1"},
		{"a=1 b=2 z=3", "a=4 b=5 c=6", "a=1 b=2 c=6 z=3", "a=4 b=5 c=6 exported_a=1 exported_b=2 z=3"},
		{"a=1 exported_a=2", "a=3", "a=1 exported_a=2", "a=3 exported_a=2 exported_exported_a=1"},
		{"a=1", "a=2 exported_a=3", "a=1 exported_a=3", "a=2 exported_a=3 exported_exported_a=1"},
		{"a=1 exported_a=2", "a=3 exported_a=4", "a=1 exported_a=2", "a=3 exported_a=4 exported_exported_a=1 exported_exported_exported_a=2"},
		{"a=1 exported_a=2 exported_exported_a=5", "a=3", "a=1 exported_a=2 exported_exported_a=5", "a=3 exported_a=2 exported_exported_a=5 exported_exported_exported_a=1"},
		{"a=1 exported_a=2", "a=3 exported_exported_a=4", "a=1 exported_a=2 exported_exported_a=4", "a=3 exported_a=2 exported_exported_a=4 exported_exported_exported_a=1"},
		{"exported_a=2 z=1", "exported_a=4 z=3", "exported_a=2 z=1", "exported_a=4 exported_exported_a=2 exported_z=1 z=3"},
		{"exported_z=2 z=1", "exported_z=4 z=3", "exported_z=2 z=1", "exported_exported_exported_z=1 exported_exported_z=2 exported_z=4 z=3"},
		{"exported_z=2 z=1", "exported_z=4", "exported_z=2 z=1", "exported_exported_z=2 exported_z=4 z=1"},
		{"exported_z=2 z=1", "z=4", "exported_z=2 z=1", "exported_exported_z=1 exported_z=2 z=4"},
		{"b=1 exported_b=2 exported_exported_b=3", "b=4 exported_exported_b=5", "b=1 exported_b=2 exported_exported_b=3", "b=4 exported_b=2 exported_exported_b=5 exported_exported_exported_b=1 exported_exported_exported_exported_b=3"},
	} {
		target, line := api.Target{Labels: set(x.target)}, of(x.line)
		honor := speltPoints([]api.Point{{Labels: set("__name__=m " + x.honor), V: 1}})
		exported := speltPoints([]api.Point{{Labels: set("__name__=m " + x.exported), V: 1}})
		wantSeries(t, api.Job{Honor: true}, target, line, honor)
		wantSeries(t, api.Job{}, target, line, exported)
	}
	// The metric's name is a label as others are.
	named := api.Target{Labels: set("__name__=n")}
	wantSeries(t, api.Job{Honor: true}, named, of(""), "__name__=m 0 1")
	wantSeries(t, api.Job{}, named, of(""), "__name__=n exported___name__=m 0 1")
	wantSeries(t, api.Job{Honor: true}, named, api.Line{Labels: set("a=1"), V: 1}, "__name__=n a=1 0 1")
}

// P12.5: a label whose name gets too long goes, and is in nobody's way.
func TestSeriesLongNames(t *testing.T) {
	const prefix = "exported_"
	room := strings.Repeat("x", api.MaxLabel-len(prefix))
	wantSeries(t, api.Job{}, api.Target{Labels: set(room + "=2")}, of(room+"=1"), "__name__=m "+prefix+room+"=1 "+room+"=2 0 1")
	for _, name := range []string{room + "x", strings.Repeat("x", api.MaxLabel)} {
		wantSeries(t, api.Job{}, api.Target{Labels: set(name + "=2")}, of(name+"=1 y=3"), "__name__=m "+name+"=2 y=3 0 1")
		wantSeries(t, api.Job{Honor: true}, api.Target{Labels: set(name + "=2")}, of(name+"=1"), "__name__=m "+name+"=1 0 1")
	}
	wantSeries(t, api.Job{}, api.Target{Labels: set(room + "=2 " + prefix + room + "=3")}, of(room+"=1"), "__name__=m "+prefix+room+"=3 "+room+"=2 0 1")
	wantSeries(t, api.Job{}, api.Target{Labels: set(room + "=2")}, of(room+"=1 "+prefix+room+"=3"), "__name__=m "+prefix+room+"=3 "+room+"=2 0 1")
	wantSeries(t, api.Job{}, api.Target{Labels: set(room + "=2 " + prefix + room + "=3")}, of(room+"=1 "+prefix+room+"=4"), "__name__=m "+prefix+room+"=3 "+room+"=2 0 1")
	// A row of names, each one's way barred by the next.
	var names []string
	for name := "a"; len(name) <= api.MaxLabel; name = prefix + name {
		names = append(names, name)
	}
	for _, row := range [][]string{names[:30], names[len(names)-30:]} {
		line, target := of(strings.Join(row, "=1 ")+"=1"), api.Target{Labels: set(strings.Join(row, "=2 ") + "=2")}
		p, ok := scrape.Series(api.Job{}, target, line)
		want := len(row) + 1
		if row[0] == "a" {
			want += len(row)
		}
		if !ok || len(p.Labels) != want || !labels.Right(p.Labels) {
			t.Errorf("a row of names from %s on: %d labels, %v", row[0], len(p.Labels), ok)
		}
	}
}

// P12.5: the value and the time of the point.
func TestSeriesSample(t *testing.T) {
	for _, v := range []float64{0, math.Copysign(0, -1), 1.5, math.Inf(1), math.Inf(-1), math.Float64frombits(0x7ff8000000000001), math.Float64frombits(0xfff0000000000007), math.Float64frombits(api.StaleBits)} {
		for _, at := range []int{0, 7, -7, api.MaxTime, -api.MaxTime} {
			for _, has := range []bool{false, true} {
				p, ok := scrape.Series(api.Job{}, api.Target{}, api.Line{Labels: set("__name__=m"), V: v, T: at, HasT: has})
				want := at
				if !has {
					want = 0
				}
				if !ok || math.Float64bits(p.V) != math.Float64bits(v) || p.T != want {
					t.Errorf("the point of %x at %d, %v: %x at %d", math.Float64bits(v), at, has, math.Float64bits(p.V), p.T)
				}
			}
		}
	}
}

// P12.5: lines that have no Series.
func TestNoSeries(t *testing.T) {
	target := api.Target{Labels: set("job=j")}
	metric := func(rules ...api.Relabel) api.Job { return api.Job{Metric: rules} }
	line := of("a=1")
	wantNoSeries(t, metric(api.Relabel{Action: api.Drop}), target, line)
	wantNoSeries(t, metric(api.Relabel{Action: api.Keep, Regex: "x"}), target, line)
	wantNoSeries(t, metric(api.Relabel{Action: api.LabelDrop, Regex: "__name__"}), target, line)
	wantNoSeries(t, metric(api.Relabel{Action: api.LabelKeep, Regex: "a"}), target, line)
	wantNoSeries(t, metric(api.Relabel{Action: api.Replace, Target: "__name__"}), target, line)
	wantNoSeries(t, api.Job{}, target, api.Line{Labels: set("a=1")})
	wantNoSeries(t, api.Job{}, target, api.Line{})
	for _, wrong := range [][]api.Label{
		{{Name: "__name__", Value: "a-b"}}, {{Name: "__name__", Value: "m"}, {Name: "a", Value: "\xff"}}, {{Name: "__name__", Value: "m"}, {Name: "a", Value: strings.Repeat("x", api.MaxLabel+1)}}, {{Name: "__name__", Value: "m"}, {Name: "a-b", Value: "1"}}, {{Name: "__name__", Value: "m"}, {Name: "a", Value: "1"}, {Name: "a", Value: "2"}}, {{Name: "", Value: "1"}, {Name: "__name__", Value: "m"}},
	} {
		wantNoSeries(t, api.Job{}, target, api.Line{Labels: wrong})
		wantNoSeries(t, api.Job{Honor: true}, api.Target{}, api.Line{Labels: wrong})
	}
	// A rule may mend it.
	wantSeries(t, metric(api.Relabel{Action: api.LabelDrop, Regex: "a"}), target, api.Line{Labels: []api.Label{{Name: "__name__", Value: "m"}, {Name: "a", Value: "\xff"}}}, "__name__=m job=j 0 0")
	wantSeries(t, metric(api.Relabel{Action: api.Replace, Target: "__name__", Replacement: "m"}), target, api.Line{Labels: set("a=1")}, "__name__=m a=1 job=j 0 0")
	// A rule that would make a wrong set leaves it.
	wantSeries(t, metric(api.Relabel{Action: api.Replace, Target: "__name__", Replacement: "a b"}), target, line, "__name__=m a=1 job=j 0 1")
	wantSeries(t, metric(api.Relabel{}, api.Relabel{Action: api.Drop, Regex: "("}), target, line, "__name__=m a=1 job=j 0 1")
	// The target's labels are seen by the rules, the line's too where they have given way.
	seen := api.Relabel{Action: api.Keep, Sources: []string{"__name__", "job", "exported_job"}, Separator: " ", Regex: "m j x"}
	wantSeries(t, metric(seen), target, of("job=x"), "__name__=m exported_job=x job=j 0 1")
	wantNoSeries(t, metric(seen), target, of("job=y"))
	// The job's rules for targets are not those for lines.
	wantSeries(t, api.Job{Relabel: []api.Relabel{{Action: api.Drop}}}, target, line, "__name__=m a=1 job=j 0 1")
}

// P12.5: a line and a target that have more than MaxLabels labels together have no Series, unless rules take some away.
func TestSeriesFull(t *testing.T) {
	full := api.Line{Labels: append(set("__name__=m"), numbered(api.MaxLabels-2)...), V: 1}
	wantSeries(t, api.Job{}, api.Target{Labels: set("z=1")}, full, spelt(full.Labels)+" z=1 0 1")
	for _, honor := range []bool{false, true} {
		wantNoSeries(t, api.Job{Honor: honor}, api.Target{Labels: set("y=1 z=1")}, full)
		wantSeries(t, api.Job{Honor: honor, Metric: []api.Relabel{{Action: api.LabelDrop, Regex: "z"}}}, api.Target{Labels: set("y=1 z=1")}, full, spelt(full.Labels)+" y=1 0 1")
	}
	wantSeries(t, api.Job{Honor: true}, api.Target{Labels: set("n000=1 z=1")}, full, spelt(full.Labels)+" z=1 0 1")
	wantNoSeries(t, api.Job{}, api.Target{Labels: set("n000=1 z=1")}, full)
}

// four is the target's own points: of a time, and the four values.
const four = "__name__=up %[1]d %[2]d; __name__=scrape_samples_scraped %[1]d %[3]d; __name__=scrape_samples_kept %[1]d %[4]d; __name__=scrape_series_added %[1]d %[5]d"

// wantBatch does a scrape at 50 for a target without labels; before and now are sets as speltSets tells them.
func wantBatch(t *testing.T, j api.Job, body, before, points string, scraped, kept, added int, now string) {
	t.Helper()
	var had [][]api.Label
	for text := range strings.SplitSeq(before, "; ") {
		if text != "" {
			had = append(had, set(text))
		}
	}
	batch, next, at, e := scrape.Batch(j, api.Target{}, 50, []byte(body), had)
	want := fmt.Sprintf(four, 50, 1, scraped, kept, added)
	if points != "" {
		want = points + "; " + want
	}
	if speltPoints(batch) != want || speltSets(next) != now || at != 0 || e != api.OK {
		t.Errorf("Batch of %q behind %s is\n%s and %s, %d, %d; want\n%s and %s", body, before, speltPoints(batch), speltSets(next), at, e, want, now)
	}
}

// P12.6: what a scrape comes to.
func TestBatch(t *testing.T) {
	const m, k, n = "__name__=m", "__name__=k", "__name__=n"
	none := api.Job{}
	wantBatch(t, none, "", "", "", 0, 0, 0, "")
	wantBatch(t, none, "\n# a remark\n# TYPE m gauge\n \n", "", "", 0, 0, 0, "")
	wantBatch(t, none, "", m, m+" 50 stale", 0, 0, 0, "")
	wantBatch(t, none, "m 1", "", m+" 50 1", 1, 1, 1, m)
	wantBatch(t, none, "m 1", m, m+" 50 1", 1, 1, 0, m)
	wantBatch(t, none, "m 1\nk 2\n", m+"; "+n, m+" 50 1; "+k+" 50 2; "+n+" 50 stale", 2, 2, 1, k+"; "+m)
	// Stale points stand in the order of before.
	wantBatch(t, none, "", n+"; "+k+"; "+m, n+" 50 stale; "+k+" 50 stale; "+m+" 50 stale", 0, 0, 0, "")
	wantBatch(t, none, "k 1", n+"; "+k+"; "+m, k+" 50 1; "+n+" 50 stale; "+m+" 50 stale", 1, 1, 0, k)
	// Lines with a time stand at it, and are none of the series that are missed later; what comes with a time alone has ended.
	wantBatch(t, none, "m 1 9", "", m+" 9 1", 1, 1, 0, "")
	wantBatch(t, none, "m 1 9", m, m+" 9 1; "+m+" 50 stale", 1, 1, 0, "")
	wantBatch(t, none, "m 1 0\nm 2 -9\nm 3 50", "", m+" 0 1; "+m+" -9 2; "+m+" 50 3", 3, 3, 0, "")
	wantBatch(t, none, "m 1 9\nm 2", m, m+" 9 1; "+m+" 50 2", 2, 2, 0, m)
	wantBatch(t, none, "m 1\nm 2 9", "", m+" 50 1; "+m+" 9 2", 2, 2, 1, m)
	wantBatch(t, none, "m 1 9007199254740992\nk 1 -9007199254740992", "", m+" 9007199254740992 1; "+k+" -9007199254740992 1", 2, 2, 0, "")
	// Several lines of one series are as many points, of one series.
	wantBatch(t, none, "m 1\nk 2\nm 1\nm 3", "", m+" 50 1; "+k+" 50 2; "+m+" 50 1; "+m+" 50 3", 4, 4, 2, k+"; "+m)
	wantBatch(t, none, "m 1\nm 1", m, m+" 50 1; "+m+" 50 1", 2, 2, 0, m)
	// Series are told apart by all their labels, and rise by them.
	wantBatch(t, none, "m{b=\"1\"} 1\nm{a=\"2\"} 2\nm 3\nm{a=\"1\"} 4", m+" a=1; "+m+" b=2", m+" b=1 50 1; "+m+" a=2 50 2; "+m+" 50 3; "+m+" a=1 50 4; "+m+" b=2 50 stale", 4, 4, 3, m+"; "+m+" a=1; "+m+" a=2; "+m+" b=1")
	wantBatch(t, none, "m NaN\nk +Inf\nn -0", "", m+" 50 NaN; "+k+" 50 +Inf; "+n+" 50 -0", 3, 3, 3, k+"; "+m+"; "+n)
	// What before has twice is told twice, and counts as there.
	wantBatch(t, none, "k 1", m+"; "+k+"; "+m+"; "+k, k+" 50 1; "+m+" 50 stale; "+m+" 50 stale", 1, 1, 0, k)
}

// P12.6: lines without a Series are scraped, but not kept.
func TestBatchRelabelled(t *testing.T) {
	const m, k, x = "__name__=m", "__name__=k", "__name__=x"
	drop := api.Job{Metric: []api.Relabel{{Action: api.Drop, Sources: []string{"__name__"}, Regex: "d"}}}
	wantBatch(t, drop, "d 1\nm 2\nd 3 4", "__name__=d", m+" 50 2; __name__=d 50 stale", 3, 1, 1, m)
	wantBatch(t, drop, "d 1\nd 2", "", "", 2, 0, 0, "")
	one := api.Job{Metric: []api.Relabel{{Action: api.Replace, Sources: []string{"__name__"}, Regex: "m|k", Target: "__name__", Replacement: "x"}}}
	wantBatch(t, one, "m 1\nk 2\nx 3", m+"; "+x, x+" 50 1; "+x+" 50 2; "+x+" 50 3; "+m+" 50 stale", 3, 3, 0, x)
	nameless := api.Job{Metric: []api.Relabel{{Action: api.Replace, Sources: []string{"a"}, Regex: "1", Target: "__name__"}}}
	wantBatch(t, nameless, "m{a=\"1\"} 1\nm{a=\"2\"} 2", "", m+" a=2 50 2", 2, 1, 1, m+" a=2")
	wrong := api.Job{Metric: []api.Relabel{{}, {Action: api.Drop, Regex: "("}}}
	wantBatch(t, wrong, "m 1", "", m+" 50 1", 1, 1, 1, m)
}

// P12.6: the target's labels, and its own four points, which no rule for lines changes.
func TestBatchTarget(t *testing.T) {
	target := api.Target{Job: "j", Labels: set("instance=i job=j")}
	all := api.Job{Metric: []api.Relabel{{Action: api.LabelDrop, Regex: "job|instance"}, {Action: api.Drop, Sources: []string{"__name__"}, Regex: "up"}}}
	batch, now, at, e := scrape.Batch(all, target, -5, []byte("m{job=\"x\"} 1\nup 1\n"), sets("__name__=up"))
	want := "__name__=m exported_job=x -5 1; __name__=up -5 stale; __name__=up instance=i job=j -5 1; __name__=scrape_samples_scraped instance=i job=j -5 2; __name__=scrape_samples_kept instance=i job=j -5 1; __name__=scrape_series_added instance=i job=j -5 1"
	if speltPoints(batch) != want || speltSets(now) != "__name__=m exported_job=x" || at != 0 || e != api.OK {
		t.Error(speltPoints(batch), speltSets(now), at, e)
	}
	honor := api.Job{Honor: true}
	batch, now, _, _ = scrape.Batch(honor, target, 0, []byte("m{job=\"x\"} 1"), nil)
	if len(batch) != 5 || spelt(batch[0].Labels) != "__name__=m instance=i job=x" || speltSets(now) != "__name__=m instance=i job=x" {
		t.Error(speltPoints(batch), speltSets(now))
	}
	// The name of the target's own series takes the place of one that is there.
	named := api.Target{Labels: set("__name__=x a=1")}
	for i, p := range scrape.Failure(api.Job{}, named, 9, nil) {
		if want := []string{"up", "scrape_samples_scraped", "scrape_samples_kept", "scrape_series_added"}[i]; spelt(p.Labels) != "__name__="+want+" a=1" {
			t.Error(spelt(p.Labels))
		}
	}
	// A name more than MaxLabels is not put in.
	full := api.Target{Labels: numbered(api.MaxLabels)}
	for _, p := range scrape.Failure(api.Job{}, full, 9, nil) {
		if spelt(p.Labels) != spelt(full.Labels) {
			t.Error(spelt(p.Labels))
		}
	}
	room := api.Target{Labels: numbered(api.MaxLabels - 1)}
	for _, p := range scrape.Failure(api.Job{}, room, 9, nil) {
		if len(p.Labels) != api.MaxLabels || !labels.Right(p.Labels) {
			t.Error(spelt(p.Labels))
		}
	}
}

// wantRefused does a scrape that must be refused.
func wantRefused(t *testing.T, j api.Job, body string, want int, why api.Errno) {
	t.Helper()
	batch, now, at, e := scrape.Batch(j, api.Target{Labels: set("job=j")}, 50, []byte(body), sets("__name__=n"))
	if len(batch) > 0 || len(now) > 0 || at != want || e != why {
		t.Errorf("Batch of %.200q is %v, %v, %d, %d; want %d, %d", body, batch, now, at, e, want, why)
	}
}

// P12.6: bodies that are refused.
func TestBatchRefused(t *testing.T) {
	none := api.Job{}
	for _, line := range []string{"x", "1 1", "m x", "m 1 1e3", "m{a=\"1\",a=\"2\"} 1", "m{__name__=\"x\"} 1", "m{a=\"\xff\"} 1", "# TYPE m foo", "# HELP m \xff", strings.Repeat("x", api.MaxLabel+1) + " 1"} {
		wantRefused(t, none, line, 1, api.ErrForm)
		wantRefused(t, none, "m 1\n\n"+line+"\nm 2\n"+line, 3, api.ErrForm)
		// A line that is refused comes ahead of the limit, wherever it stands.
		wantRefused(t, api.Job{SampleLimit: 1}, "m 1\nm 2\nm 3\n"+line, 4, api.ErrForm)
		wantRefused(t, api.Job{Metric: []api.Relabel{{Action: api.Drop}}}, "m 1\n"+line, 2, api.ErrForm)
	}
}

// P12.6: the limit counts lines that have a Series, those with a time and those of one series too.
func TestSampleLimit(t *testing.T) {
	drop := []api.Relabel{{Action: api.Drop, Sources: []string{"__name__"}, Regex: "d"}}
	for _, body := range []string{"a 1\nb 1\nc 1", "a 1\na 1\na 1", "a 1 1\na 1 2\na 1 3", "d 1\na 1\nd 2\nb 1 3\nd 3\na 1\nd 4\n# x\n"} {
		for _, limit := range []int{1, 2} {
			wantRefused(t, api.Job{SampleLimit: limit, Metric: drop}, body, 0, api.ErrLimit)
		}
		for _, limit := range []int{0, -1, math.MinInt, 3, 4, math.MaxInt} {
			if batch, _, at, e := scrape.Batch(api.Job{SampleLimit: limit, Metric: drop}, api.Target{}, 50, []byte(body), nil); len(batch) != 7 || at != 0 || e != api.OK {
				t.Errorf("SampleLimit %d of %q: %v, %d, %d", limit, body, batch, at, e)
			}
		}
	}
	wantBatch(t, api.Job{SampleLimit: 1, Metric: drop}, "d 1\nd 1\nd 1", "", "", 3, 0, 0, "")
	wantBatch(t, api.Job{SampleLimit: 1}, "", "__name__=a; __name__=b", "__name__=a 50 stale; __name__=b 50 stale", 0, 0, 0, "")
}

// P12.7: what a failed scrape comes to.
func TestFailure(t *testing.T) {
	j := api.Job{Name: "j", SampleLimit: 1, Metric: []api.Relabel{{Action: api.Drop}}}
	for _, now := range []int{0, -7, 50, api.MaxTime, -api.MaxTime} {
		zero := fmt.Sprintf(four, now, 0, 0, 0, 0)
		if got := speltPoints(scrape.Failure(j, api.Target{}, now, nil)); got != zero {
			t.Error(got)
		}
		want := fmt.Sprintf("__name__=n a=1 %d stale; __name__=m %[1]d stale; ", now) + zero
		if got := speltPoints(scrape.Failure(j, api.Target{}, now, sets("__name__=n a=1", "__name__=m"))); got != want {
			t.Error(got)
		}
	}
	target := api.Target{Labels: set("job=j")}
	if got, want := speltPoints(scrape.Failure(j, target, 1, nil)), strings.NewReplacer(" 1 0", " job=j 1 0").Replace(fmt.Sprintf(four, 1, 0, 0, 0, 0)); got != want {
		t.Error(got, want)
	}
}

// P12.7: the stale marker, told from all other NaNs.
func TestStale(t *testing.T) {
	if math.Float64bits(scrape.Stale()) != 0x7ff0000000000002 || !scrape.IsStale(scrape.Stale()) {
		t.Errorf("Stale is %x", math.Float64bits(scrape.Stale()))
	}
	for _, bits := range []uint64{0, 0x7ff8000000000001, 0x7ff0000000000001, 0x7ff0000000000003, 0x7ff8000000000002, 0xfff0000000000002, 0x7ff0000000000000, 0xfff0000000000000, 0x7fffffffffffffff, 2, math.MaxUint64} {
		if scrape.IsStale(math.Float64frombits(bits)) {
			t.Errorf("%x is stale", bits)
		}
	}
	for bit := range 64 {
		if scrape.IsStale(math.Float64frombits(api.StaleBits ^ 1<<bit)) {
			t.Errorf("stale but for bit %d", bit)
		}
	}
}

// W8, R1: a great body is done line by line, with the rules made ready once.
func TestGreatBody(t *testing.T) {
	const count = 60000
	var body bytes.Buffer
	for i := range count {
		fmt.Fprintf(&body, "m{n=\"%d\"} 1\n", count-i)
	}
	rule := api.Relabel{Action: api.Replace, Sources: []string{"n"}, Regex: "(a|b|c|d|e|f|g|[0-9]{1,50})*", Target: "t", Replacement: "${1}"}
	j := api.Job{Metric: []api.Relabel{rule, rule, rule}}
	_, before, _, _ := scrape.Batch(j, api.Target{Labels: set("job=j")}, 1, body.Bytes(), nil)
	batch, now, _, e := scrape.Batch(j, api.Target{Labels: set("job=j")}, 2, body.Bytes(), before[:count/2])
	if e != api.OK || len(before) != count || len(now) != count || len(batch) != count+4 || batch[count+3].V != count/2 {
		t.Error("a great body", len(before), len(now), len(batch), e)
	}
}
