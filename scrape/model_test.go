package scrape_test

import (
	"fmt"
	"math"
	"math/rand"
	"regexp"
	"slices"
	"strconv"
	"strings"
	"testing"
	"unicode/utf8"

	"vigil/api"
	"vigil/expo"
	"vigil/labels"
	"vigil/num"
	"vigil/scrape"
)

// The names of chapter 2, and the groups of templates of chapter 4, as expressions of the library.
var (
	nameForm   = regexp.MustCompile(`^[a-zA-Z_][a-zA-Z0-9_]*$`)
	metricForm = regexp.MustCompile(`^[a-zA-Z_:][a-zA-Z0-9_:]*$`)
	groupForm  = regexp.MustCompile(`\$\$|\$[1-9]|\$\{(?:0|[1-9][0-9]{0,2})\}`)
)

// table is a set by its names.
type table map[string]string

func tableOf(l []api.Label) table {
	out := table{}
	for _, x := range l {
		out[x.Name] = x.Value
	}
	return out
}

// names are those of the table, rising.
func (m table) names() []string {
	var out []string
	for name := range m {
		out = append(out, name)
	}
	slices.Sort(out)
	return out
}

func (m table) list() []api.Label {
	var out []api.Label
	for _, name := range m.names() {
		out = append(out, api.Label{Name: name, Value: m[name]})
	}
	return out
}

func rightName(s string) bool { return len(s) <= 1024 && nameForm.MatchString(s) }

func rightValue(name, value string) bool {
	return utf8.ValidString(value) && len(value) <= 1024 && (name != "__name__" || metricForm.MatchString(value))
}

// put is how a label gets a value, in the chapter's words.
func (m table) put(name, value string) {
	_, there := m[name]
	switch {
	case !rightName(name):
	case value == "":
		delete(m, name)
	case rightValue(name, value) && (there || len(m) < 64):
		m[name] = value
	}
}

// modelExpand is Expand by the library's groups.
func modelExpand(template string, groups []string) string {
	return groupForm.ReplaceAllStringFunc(template, func(s string) string {
		if s == "$$" {
			return "$"
		}
		n, _ := strconv.Atoi(strings.Trim(s, "${}"))
		if n >= len(groups) {
			return ""
		}
		return groups[n]
	})
}

// modelRight tells whether a rule is right; its expression is one that the library understands alike.
func modelRight(r api.Relabel) bool {
	if _, err := regexp.Compile(r.Regex); err != nil {
		return false
	}
	for _, name := range r.Sources {
		if !rightName(name) {
			return false
		}
	}
	switch r.Action {
	case api.Replace:
		return r.Target != ""
	case api.HashMod:
		return r.Modulus >= 1 && rightName(r.Target)
	case api.Lower, api.Upper:
		return rightName(r.Target)
	}
	return r.Action >= api.Replace && r.Action <= api.Upper
}

// modelRule does one rule; false, if the set goes.
func (m table) modelRule(r api.Relabel) bool {
	means := regexp.MustCompile(`(?s)^(?:` + r.Regex + `)$`)
	var values []string
	for _, name := range r.Sources {
		values = append(values, m[name])
	}
	text := strings.Join(values, r.Separator)
	turn := func(turn func(string) string) string {
		return regexp.MustCompile(`[a-zA-Z]+`).ReplaceAllStringFunc(text, turn)
	}
	switch r.Action {
	case api.Replace:
		if groups := means.FindStringSubmatch(text); groups != nil {
			m.put(modelExpand(r.Target, groups), modelExpand(r.Replacement, groups))
		}
	case api.Keep:
		return means.MatchString(text)
	case api.Drop:
		return !means.MatchString(text)
	case api.HashMod:
		m.put(r.Target, strconv.FormatUint(sumOf(text)%uint64(r.Modulus), 10))
	case api.LabelMap:
		was := tableOf(m.list())
		for _, name := range was.names() {
			if groups := means.FindStringSubmatch(name); groups != nil {
				m.put(modelExpand(r.Replacement, groups), was[name])
			}
		}
	case api.LabelDrop, api.LabelKeep:
		for _, name := range m.names() {
			if means.MatchString(name) == (r.Action == api.LabelDrop) {
				delete(m, name)
			}
		}
	case api.Lower:
		m.put(r.Target, turn(strings.ToLower))
	case api.Upper:
		m.put(r.Target, turn(strings.ToUpper))
	}
	return true
}

func modelRelabel(l []api.Label, rules []api.Relabel) ([]api.Label, bool) {
	m := tableOf(l)
	for _, r := range rules {
		if modelRight(r) && !m.modelRule(r) {
			return nil, false
		}
	}
	return m.list(), true
}

// modelTargets is the targets of a job that Check takes.
func modelTargets(j api.Job) []api.Target {
	var out []api.Target
	if scrape.Check(j) != api.OK {
		return nil
	}
	for _, list := range j.Targets {
		m := table{}
		for _, x := range list {
			if x.Value != "" {
				m[x.Name] = x.Value
			}
		}
		for _, x := range [][2]string{{"__scheme__", "http"}, {"__metrics_path__", "/metrics"}, {"job", j.Name}} {
			if m[x[0]] == "" {
				m.put(x[0], x[1])
			}
		}
		l, ok := modelRelabel(m.list(), j.Relabel)
		m = tableOf(l)
		address := m["__address__"]
		if !ok || address == "" {
			continue
		}
		t := api.Target{Job: j.Name, URL: m["__scheme__"] + "://" + address + m["__metrics_path__"]}
		for name := range m {
			if strings.HasPrefix(name, "__") {
				delete(m, name)
			}
		}
		if m["instance"] == "" {
			m.put("instance", address)
		}
		t.Labels = m.list()
		t.Offset = int(sumOf(string(labels.Bytes(t.Labels))+t.URL) % uint64(j.Interval))
		if !slices.ContainsFunc(out, func(x api.Target) bool { return x.URL == t.URL && slices.Equal(x.Labels, t.Labels) }) {
			out = append(out, t)
		}
	}
	return out
}

// modelSeries is the labels of a line's point.
func modelSeries(j api.Job, t api.Target, line api.Line) ([]api.Label, bool) {
	m, target := tableOf(line.Labels), tableOf(t.Labels)
	for _, x := range line.Labels {
		if target[x.Name] == "" || j.Honor {
			continue
		}
		delete(m, x.Name)
		name := "exported_" + x.Name
		for m[name] != "" || target[name] != "" {
			name = "exported_" + name
		}
		if len(name) <= 1024 {
			m[name] = x.Value
		}
	}
	for name, value := range target {
		if m[name] == "" {
			m[name] = value
		}
	}
	l, ok := modelRelabel(m.list(), j.Metric)
	if !ok || len(l) > 64 || !metricForm.MatchString(labels.Get(l, "__name__")) {
		return nil, false
	}
	for _, x := range l {
		if !rightName(x.Name) || !rightValue(x.Name, x.Value) {
			return nil, false
		}
	}
	return l, true
}

// modelBatch is a scrape, as speltPoints and speltSets tell it.
func modelBatch(j api.Job, t api.Target, now int, lines []api.Line, before [][]api.Label) string {
	var batch, own []api.Point
	var now2 [][]api.Label
	among := func(l [][]api.Label, x []api.Label) bool {
		return slices.ContainsFunc(l, func(y []api.Label) bool { return slices.Equal(x, y) })
	}
	for _, line := range lines {
		l, ok := modelSeries(j, t, line)
		switch {
		case !ok:
		case line.HasT:
			batch = append(batch, api.Point{Labels: l, T: line.T, V: line.V})
		default:
			batch = append(batch, api.Point{Labels: l, T: now, V: line.V})
			if !among(now2, l) {
				now2 = append(now2, l)
			}
		}
	}
	if j.SampleLimit > 0 && len(batch) > j.SampleLimit {
		return "limit"
	}
	slices.SortFunc(now2, labels.Compare)
	added, kept := 0, len(batch)
	for _, x := range now2 {
		if !among(before, x) {
			added++
		}
	}
	for _, x := range before {
		if !among(now2, x) {
			batch = append(batch, api.Point{Labels: x, T: now, V: math.Float64frombits(0x7ff0000000000002)})
		}
	}
	for i, name := range []string{"up", "scrape_samples_scraped", "scrape_samples_kept", "scrape_series_added"} {
		m := tableOf(t.Labels)
		m.put("__name__", name)
		own = append(own, api.Point{Labels: m.list(), T: now, V: float64([]int{1, len(lines), kept, added}[i])})
	}
	return speltPoints(append(batch, own...)) + " and " + speltSets(now2)
}

// numbers draws what tests are made of.
type numbers struct{ *rand.Rand }

func newNumbers(seed int64) *numbers { return &numbers{rand.New(rand.NewSource(seed))} }

func pick[T any](n *numbers, l []T) T { return l[n.Intn(len(l))] }

func (n *numbers) name() string {
	return pick(n, []string{"a", "b", "ab", "x_a", "x_b", "__name__", "_", "__x", "job", "exported_a", "exported_job", "instance", "__scheme__", strings.Repeat("y", 1020), strings.Repeat("y", 1024)})
}

func (n *numbers) value() string {
	return pick(n, []string{"a", "b", "ab", "AB", "aB", "x", "1", "é", "a:b", "a b", strings.Repeat("v", 1024)})
}

// set draws a set that is right but perhaps for the value of __name__, which is then left out.
func (n *numbers) set() []api.Label {
	m := table{}
	for range n.Intn(6) {
		m.put(n.name(), n.value())
	}
	if n.Intn(20) == 0 {
		for _, x := range numbered(55 + n.Intn(10)) {
			m.put(x.Name, x.Value)
		}
	}
	return m.list()
}

// strangeSet draws a set with values of any kind.
func (n *numbers) strangeSet() []api.Label {
	m := tableOf(n.set())
	for range n.Intn(3) {
		m[n.name()] = pick(n, []string{"a-b", "\xff", "é\xff", strings.Repeat("w", 1025), "1"})
	}
	return m.list()
}

// rule draws a rule that is right, mostly.
func (n *numbers) rule() api.Relabel {
	r := api.Relabel{
		Action:      1 + n.Intn(9),
		Separator:   pick(n, []string{"", "-", ";", "ab"}),
		Regex:       pick(n, []string{"", ".*", "(.*)", "a", "[ab]+", "(a)|(b)", "x_(.*)", "(a*)(b*).*", "__name__|a", "(.)(.*)", "(?:(a)|b)*", "[^a].*", ".*b", "a?", "(.*)(.)", "__.*", "(a|ab)(b?)"}),
		Modulus:     pick(n, []int{1, 2, 3, 1 << 40, math.MaxInt}),
		Target:      pick(n, []string{"a", "b", "c", "__name__", "job", "x_a", "__address__", "exported_a"}),
		Replacement: pick(n, []string{"", "$1", "${1}", "$2$1", "x", "x_$1", "$1_", "$$", "${0}", "a$1b$2", "1", "é", "\xff", "$1$1$1", "$", "__$1", "__name__", "job", "a"}),
	}
	for range n.Intn(4) {
		r.Sources = append(r.Sources, pick(n, []string{"a", "b", "ab", "__name__", "job", "lacks", "__address__"}))
	}
	if r.Action == api.Replace && n.Intn(2) == 0 {
		r.Target = pick(n, []string{"$1", "c$1", "$1$2", "0", "a-b", "$$", "${0}", "__name__", strings.Repeat("y", 1020) + "$1"})
	}
	if n.Intn(8) == 0 {
		switch n.Intn(5) {
		case 0:
			r.Action = pick(n, []int{0, 10, -1})
		case 1:
			r.Regex = pick(n, []string{"(", "[", "a**", ")"})
		case 2:
			r.Sources = append(r.Sources, pick(n, []string{"", "0", "a-b", "a:b"}))
		case 3:
			r.Target = pick(n, []string{"", "0", "a b"})
		case 4:
			r.Modulus = pick(n, []int{0, -1, math.MinInt})
		}
	}
	return r
}

// rules draws some rules; those by which sets go are rare, so that others are met behind them.
func (n *numbers) rules() []api.Relabel {
	var l []api.Relabel
	for range n.Intn(5) {
		r := n.rule()
		if (r.Action == api.Keep || r.Action == api.Drop) && n.Intn(3) > 0 {
			continue
		}
		l = append(l, r)
	}
	return l
}

// P12.1, P12.8: Relabel, held against the model; of a set it is a set.
func TestRelabelModel(t *testing.T) {
	n := newNumbers(1)
	left := 0
	for range 30000 {
		l, rules := n.strangeSet(), n.rules()
		if n.Intn(4) > 0 {
			l = n.set()
		}
		got, ok := scrape.Relabel(l, rules)
		want, wantOK := modelRelabel(l, rules)
		if ok != wantOK || !slices.Equal(got, want) {
			t.Fatalf("Relabel(%v, %v) is %v, %v; want %v, %v", l, rules, got, ok, want, wantOK)
		}
		if labels.Right(l) && ok && !labels.Right(got) {
			t.Fatalf("Relabel(%v, %v) is no right set", l, rules)
		}
		for _, r := range rules {
			if scrape.Right(r) != modelRight(r) {
				t.Fatalf("Right(%+v) is %v", r, scrape.Right(r))
			}
		}
		if ok && !slices.Equal(got, l) {
			left++
		}
	}
	if left < 5000 {
		t.Error("rules hardly do anything", left)
	}
}

// line draws a line; some have labels of any kind.
func (n *numbers) line() api.Line {
	m := tableOf(n.set())
	if n.Intn(10) > 0 {
		m["__name__"] = pick(n, []string{"m", "k", "up"})
	}
	line := api.Line{Labels: m.list(), V: float64(n.Intn(4))}
	if n.Intn(3) == 0 {
		line.HasT, line.T = true, n.Intn(9)-4
	}
	return line
}

// P12.5: Series, held against the model.
func TestSeriesModel(t *testing.T) {
	n := newNumbers(2)
	for range 20000 {
		j := api.Job{Honor: n.Intn(2) == 0, Metric: n.rules()}
		target, line := api.Target{Labels: n.set()}, n.line()
		if n.Intn(5) == 0 {
			line.Labels = n.strangeSet()
		}
		p, ok := scrape.Series(j, target, line)
		want, wantOK := modelSeries(j, target, line)
		if ok != wantOK || !slices.Equal(p.Labels, want) {
			t.Fatalf("Series of %v for %v by %v is %v, %v; want %v, %v", line, target, j, p, ok, want, wantOK)
		}
	}
}

// P12.6, W8: rows of scrapes, held against the model.
func TestBatchModel(t *testing.T) {
	n := newNumbers(4)
	limits := 0
	for range 800 {
		j := api.Job{Honor: n.Intn(2) == 0, Metric: n.rules(), SampleLimit: pick(n, []int{0, 0, -1, 1, 3, 6})}
		target := api.Target{Labels: n.set()}
		var before [][]api.Label
		for now := range 5 {
			var lines []api.Line
			for range n.Intn(8) {
				line := n.line()
				for _, e := labels.New(line.Labels); e != api.OK || labels.Get(line.Labels, "__name__") == ""; _, e = labels.New(line.Labels) {
					line = n.line()
				}
				lines = append(lines, line)
				if n.Intn(3) == 0 {
					lines = append(lines, lines[n.Intn(len(lines))])
				}
			}
			batch, next, at, e := scrape.Batch(j, target, now, expo.Text(lines), before)
			got := speltPoints(batch) + " and " + speltSets(next)
			if e == api.ErrLimit && at == 0 && len(batch) == 0 && len(next) == 0 {
				got = "limit"
				limits++
			}
			if want := modelBatch(j, target, now, lines, before); got != want {
				t.Fatalf("Batch of %v for %v by %v behind %v is\n%.3000s; want\n%.3000s", expo.Text(lines), target, j, before, got, want)
			}
			if e == api.OK && !slices.IsSortedFunc(next, labels.Compare) {
				t.Fatal("series that do not rise", speltSets(next))
			}
			before = next
			n.Shuffle(len(before), func(a, b int) { before[a], before[b] = before[b], before[a] })
		}
	}
	if limits < 50 {
		t.Error("the limit is hardly met", limits)
	}
}

// W8: behind a row of scrapes each series that was told without a time either came last, or has ended.
func TestEndsAreMarked(t *testing.T) {
	n := newNumbers(5)
	target := api.Target{Labels: set("instance=i job=j")}
	last := map[string]float64{}
	var before [][]api.Label
	for now := range 3000 {
		var body strings.Builder
		var came []string
		for _, name := range []string{"a", "b", "c", "d"} {
			if n.Intn(2) == 0 {
				body.WriteString(name + " " + num.IntText(now) + "\n")
				came = append(came, name)
			}
		}
		batch, next, _, e := scrape.Batch(api.Job{}, target, now, []byte(body.String()), before)
		if n.Intn(5) == 0 {
			batch, next, e = scrape.Failure(api.Job{}, target, now, before), nil, api.OK
			came = nil
		}
		if e != api.OK {
			t.Fatal(e)
		}
		for _, p := range batch {
			last[labels.Get(p.Labels, "__name__")] = p.V
		}
		for _, name := range []string{"a", "b", "c", "d"} {
			v, told := last[name]
			if slices.Contains(came, name) != (told && !scrape.IsStale(v)) {
				t.Fatal(fmt.Sprint("at ", now, " the last of ", name, " is ", v))
			}
		}
		before = next
	}
}
