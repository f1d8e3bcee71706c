package scrape_test

import (
	"fmt"
	"math"
	"slices"
	"strings"
	"testing"

	"vigil/api"
	"vigil/labels"
	"vigil/scrape"
)

// some is a job that Check takes.
func some(targets ...string) api.Job {
	return api.Job{Name: "j", Interval: 1000, Targets: sets(targets...)}
}

// speltTargets is targets as their labels and URLs.
func speltTargets(l []api.Target) string {
	var out []string
	for _, x := range l {
		out = append(out, spelt(x.Labels)+" "+x.URL)
	}
	return strings.Join(out, "; ")
}

// wantTargets holds a job's targets against a text, and their Offsets against the chapter's words.
func wantTargets(t *testing.T, j api.Job, want string) {
	t.Helper()
	l := scrape.Targets(j)
	if got := speltTargets(l); got != want {
		t.Errorf("Targets of %.500v are %s; want %s", j, got, want)
	}
	for _, x := range l {
		if sum := sumOf(string(labels.Bytes(x.Labels)) + x.URL); x.Job != j.Name || x.Offset != int(sum%uint64(j.Interval)) {
			t.Errorf("the job %q and the Offset %d of %v", x.Job, x.Offset, x)
		}
	}
}

// P12.2: each reason for which a job is refused.
func TestCheck(t *testing.T) {
	just, over := strings.Repeat("x", api.MaxLabel), strings.Repeat("x", api.MaxLabel+1)
	wrong := []api.Relabel{plain(api.Keep), {}}
	for _, x := range []struct {
		what   string
		change func(j *api.Job)
		want   api.Errno
	}{
		{"nothing", func(j *api.Job) {}, api.OK},
		{"an empty Name", func(j *api.Job) { j.Name = "" }, api.ErrName},
		{"a Name of no UTF-8", func(j *api.Job) { j.Name = "a\xff" }, api.ErrName},
		{"a Name just so long", func(j *api.Job) { j.Name = just }, api.OK},
		{"a Name too long", func(j *api.Job) { j.Name = over }, api.ErrName},
		{"a Name that is no label's", func(j *api.Job) { j.Name = " é-/\n" }, api.OK},
		{"Interval 1", func(j *api.Job) { j.Interval = 1 }, api.OK},
		{"Interval MaxTime", func(j *api.Job) { j.Interval = api.MaxTime }, api.OK},
		{"Interval 0", func(j *api.Job) { j.Interval = 0 }, api.ErrArg},
		{"Interval below 0", func(j *api.Job) { j.Interval = -1 }, api.ErrArg},
		{"the least Interval", func(j *api.Job) { j.Interval = math.MinInt }, api.ErrArg},
		{"Interval above MaxTime", func(j *api.Job) { j.Interval = api.MaxTime + 1 }, api.ErrArg},
		{"the greatest Interval", func(j *api.Job) { j.Interval = math.MaxInt }, api.ErrArg},
		{"SampleLimit 0", func(j *api.Job) { j.SampleLimit = 0 }, api.OK},
		{"SampleLimit below 0", func(j *api.Job) { j.SampleLimit = -1 }, api.ErrArg},
		{"the greatest SampleLimit", func(j *api.Job) { j.SampleLimit = math.MaxInt }, api.OK},
		{"right rules", func(j *api.Job) { j.Relabel, j.Metric = wrong[:1], wrong[:1] }, api.OK},
		{"a wrong rule of Relabel", func(j *api.Job) { j.Relabel = wrong }, api.ErrForm},
		{"a wrong rule of Metric", func(j *api.Job) { j.Metric = wrong }, api.ErrForm},
		{"an empty list", func(j *api.Job) { j.Targets = [][]api.Label{nil, {}} }, api.OK},
		{"a list of any order", func(j *api.Job) {
			j.Targets = [][]api.Label{{{Name: "b", Value: "1"}, {Name: "a"}, {Name: "a", Value: "2"}}}
		}, api.OK},
		{"a list with MaxLabels labels", func(j *api.Job) { j.Targets = [][]api.Label{numbered(api.MaxLabels)} }, api.OK},
		{"a list with a wrong name", func(j *api.Job) { j.Targets = [][]api.Label{nil, {{Name: "0", Value: "1"}}} }, api.ErrBad},
		{"a list with a wrong name of an empty value", func(j *api.Job) { j.Targets = [][]api.Label{{{Name: "-"}}} }, api.ErrBad},
		{"a list with a wrong value", func(j *api.Job) { j.Targets = [][]api.Label{{{Name: "a", Value: "\xff"}}} }, api.ErrBad},
		{"a list with a name twice", func(j *api.Job) { j.Targets = [][]api.Label{{{Name: "a", Value: "1"}, {Name: "a", Value: "1"}}} }, api.ErrBad},
		{"a list with too many labels", func(j *api.Job) { j.Targets = [][]api.Label{numbered(api.MaxLabels + 1)} }, api.ErrBad},
		{"a list with a wrong metric", func(j *api.Job) { j.Targets = [][]api.Label{{{Name: "__name__", Value: "a-b"}}} }, api.ErrBad},
	} {
		j := some("__address__=h:1")
		x.change(&j)
		if got := scrape.Check(j); got != x.want {
			t.Errorf("%s: Check is %d; want %d", x.what, got, x.want)
		}
	}
}

// P12.2: of several reasons the first one counts.
func TestCheckOrder(t *testing.T) {
	reasons := []struct {
		change func(j *api.Job)
		want   api.Errno
	}{
		{func(j *api.Job) { j.Name = "" }, api.ErrName}, {func(j *api.Job) { j.Interval = 0 }, api.ErrArg}, {func(j *api.Job) { j.SampleLimit = -1 }, api.ErrArg}, {func(j *api.Job) { j.Relabel = []api.Relabel{{}} }, api.ErrForm}, {func(j *api.Job) { j.Metric = []api.Relabel{{}} }, api.ErrForm}, {func(j *api.Job) { j.Targets = append(j.Targets, []api.Label{{Name: "0"}}) }, api.ErrBad},
	}
	for chosen := 1; chosen < 1<<len(reasons); chosen++ {
		j, want := some("__address__=h:1"), api.OK
		for i, x := range reasons {
			if chosen>>i&1 == 0 {
				continue
			}
			x.change(&j)
			if want == api.OK {
				want = x.want
			}
		}
		if got := scrape.Check(j); got != want {
			t.Errorf("the reasons %b: Check is %d; want %d", chosen, got, want)
		}
		if l := scrape.Targets(j); len(l) != 0 {
			t.Errorf("the reasons %b: there are targets %v", chosen, l)
		}
	}
}

// P12.3: what a target is made of.
func TestTargets(t *testing.T) {
	wantTargets(t, some(), "")
	wantTargets(t, some(""), "")
	wantTargets(t, some("x=1"), "")
	wantTargets(t, some("x=1 __address__=h:1"), "instance=h:1 job=j x=1 http://h:1/metrics")
	wantTargets(t, some("__address__=h:2", "__address__=h:1", "x=1", "__address__=h:3"), "instance=h:2 job=j http://h:2/metrics; instance=h:1 job=j http://h:1/metrics; instance=h:3 job=j http://h:3/metrics")
	wantTargets(t, some("__address__=h:1 __scheme__=https __metrics_path__=/m job=k instance=i"), "instance=i job=k https://h:1/m")
	wantTargets(t, some("__address__=h:1 __scheme__=x"), "instance=h:1 job=j x://h:1/metrics")
	wantTargets(t, some("__address__=h:1 __metrics_path__=m?a=b"), "instance=h:1 job=j http://h:1m?a=b")
	wantTargets(t, some("__address__=h:1 __x=1 __=2 _=3 _x=4 x__=5 ___y=6"), "_=3 _x=4 instance=h:1 job=j x__=5 http://h:1/metrics")
	wantTargets(t, some("__address__=h:1 __name__=up"), "instance=h:1 job=j http://h:1/metrics")
	// Lists of any order, with empty values.
	j := some()
	j.Targets = [][]api.Label{{{Name: "z", Value: "1"}, {Name: "__scheme__"}, {Name: "job"}, {Name: "instance"}, {Name: "__address__", Value: "h:1"}, {Name: "a"}}, {{Name: "__address__"}}}
	wantTargets(t, j, "instance=h:1 job=j z=1 http://h:1/metrics")
	j = some("__address__=h:1")
	j.Name = "no name: é\n"
	wantTargets(t, j, "instance=h:1 job=no name: é\n http://h:1/metrics")
}

// P12.3: of two with the same labels and URL the first alone.
func TestTargetsTwice(t *testing.T) {
	wantTargets(t, some("__address__=h:1", "__address__=h:1", "__address__=h:1 __x=1", "__address__=h:1 job=j", "__address__=h:1 __scheme__=http instance=h:1"), "instance=h:1 job=j http://h:1/metrics")
	wantTargets(t, some("__address__=h:1", "__address__=h:2 instance=h:1", "__address__=h:1 __metrics_path__=/m", "__address__=h:1 __scheme__=https", "__address__=h:1 a=1", "__address__=h:1", "__address__=h:1 a=1"), "instance=h:1 job=j http://h:1/metrics; instance=h:1 job=j http://h:2/metrics; instance=h:1 job=j http://h:1/m; instance=h:1 job=j https://h:1/metrics; a=1 instance=h:1 job=j http://h:1/metrics")
	// One URL can come about in two ways.
	wantTargets(t, some("__address__=h __metrics_path__=/a/b instance=i", "__address__=h/a __metrics_path__=/b instance=i"), "instance=i job=j http://h/a/b")
}

// P12.3: lists are Relabelled with what was put in, ahead of the URL being told.
func TestTargetsRelabelled(t *testing.T) {
	j := some("__address__=h:1 __meta_zone=z1", "__address__=h:2", "__meta_address=h:3")
	as := func(rules ...api.Relabel) api.Job {
		j.Relabel = rules
		return j
	}
	put := func(name, value string) api.Relabel {
		return api.Relabel{Action: api.Replace, Target: name, Replacement: value}
	}
	wantTargets(t, as(api.Relabel{Action: api.Drop, Sources: []string{"__address__"}, Regex: "h:1"}), "instance=h:2 job=j http://h:2/metrics")
	wantTargets(t, as(api.Relabel{Action: api.Keep, Sources: []string{"__scheme__", "__metrics_path__", "job"}, Separator: " ", Regex: "http /metrics j"}), "instance=h:1 job=j http://h:1/metrics; instance=h:2 job=j http://h:2/metrics")
	wantTargets(t, as(api.Relabel{Action: api.LabelMap, Regex: "__meta_(.*)", Replacement: "__${1}__"}), "instance=h:1 job=j http://h:1/metrics; instance=h:2 job=j http://h:2/metrics; instance=h:3 job=j http://h:3/metrics")
	wantTargets(t, as(api.Relabel{Action: api.LabelMap, Regex: "__meta_(zone)", Replacement: "$1"}), "instance=h:1 job=j zone=z1 http://h:1/metrics; instance=h:2 job=j http://h:2/metrics")
	wantTargets(t, as(put("__address__", "one")), "instance=one job=j http://one/metrics")
	wantTargets(t, as(put("__address__", "")), "")
	wantTargets(t, as(put("job", "k"), put("__scheme__", "s"), put("__metrics_path__", "/p")), "instance=h:1 job=k s://h:1/p; instance=h:2 job=k s://h:2/p")
	wantTargets(t, as(api.Relabel{Action: api.Drop}), "")
	// The instance is put in behind the rules, which can't see it; what they take away stays so.
	wantTargets(t, as(api.Relabel{Action: api.Keep, Sources: []string{"instance"}}), "instance=h:1 job=j http://h:1/metrics; instance=h:2 job=j http://h:2/metrics")
	wantTargets(t, as(put("job", ""), put("__scheme__", ""), put("__metrics_path__", "")), "instance=h:1 ://h:1; instance=h:2 ://h:2")
	wantTargets(t, as(put("instance", "one"), put("__metrics_path__", "/$$")), "instance=one job=j http://h:1/$; instance=one job=j http://h:2/$")
}

// P12.3: a label more than MaxLabels is not put in, of these in their order.
func TestTargetsFull(t *testing.T) {
	for left, want := range []string{"://h", "http://h", "http://h/metrics", "http://h/metrics", "http://h/metrics"} {
		list := append(numbered(api.MaxLabels-1-left), api.Label{Name: "__address__", Value: "h"})
		j := some()
		j.Targets = [][]api.Label{list}
		job := ""
		if left >= 3 {
			job = "job=j "
		}
		wantTargets(t, j, "instance=h "+job+spelt(numbered(api.MaxLabels-1-left))+" "+want)
	}
}

// P12.3: the Offset, of intervals of any width.
func TestOffsets(t *testing.T) {
	for _, interval := range []int{1, 2, 10, 60000, 1 << 40, api.MaxTime - 1, api.MaxTime} {
		var lists []string
		for i := range 30 {
			lists = append(lists, fmt.Sprint("__address__=h:", i))
		}
		j := some(lists...)
		j.Interval = interval
		met := map[int]int{}
		for _, x := range scrape.Targets(j) {
			if x.Offset < 0 || x.Offset >= interval || x.Offset != int(sumOf(string(labels.Bytes(x.Labels))+x.URL)%uint64(interval)) {
				t.Fatal(interval, x)
			}
			met[x.Offset]++
		}
		if interval > 10 && len(met) < 25 {
			t.Error("Offsets are hardly spread", interval, met)
		}
	}
}

// P12.8: two targets of one job are unlike, and their labels are sets that are right.
func TestTargetsUnlike(t *testing.T) {
	n := newNumbers(3)
	for range 2000 {
		j := api.Job{Name: pick(n, []string{"j", "k"}), Interval: 1 + n.Intn(50), Relabel: n.rules()}
		for range n.Intn(6) {
			j.Targets = append(j.Targets, append(n.set(), api.Label{Name: "__address__", Value: pick(n, []string{"", "a", "b", "ab"})}))
		}
		l := scrape.Targets(j)
		for i, x := range l {
			if slices.ContainsFunc(l[:i], func(y api.Target) bool { return x.URL == y.URL && slices.Equal(x.Labels, y.Labels) }) {
				t.Fatal("two alike", l)
			}
		}
		for _, x := range l {
			if !labels.Right(x.Labels) || labels.Get(x.Labels, "instance") == "" {
				t.Fatal("labels", x.Labels)
			}
		}
		if got, want := fmt.Sprintf("%+v", l), fmt.Sprintf("%+v", modelTargets(j)); got != want {
			t.Fatalf("Targets of %+v are\n%s; want\n%s", j, got, want)
		}
	}
}
