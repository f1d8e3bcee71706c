package funcs_test

import (
	"fmt"
	"math"
	"math/rand"
	"slices"
	"strings"
	"testing"

	"vigil/api"
	"vigil/funcs"
)

// overs is the names of Over, overFolds those of them that fold values.
const (
	overFolds = "avg_over_time sum_over_time min_over_time max_over_time count_over_time last_over_time stddev_over_time stdvar_over_time quantile_over_time"
	overPairs = "irate idelta rate increase delta"
	overs     = overFolds + " present_over_time changes resets " + overPairs
)

type overRow struct {
	name, l  string
	from, to int
	want     string // "none": 0 and false
}

func wantOver(t *testing.T, rows []overRow) {
	t.Helper()
	for _, x := range rows {
		got, ok := funcs.Over(x.name, samples(x.l), 0.25, x.from, x.to)
		what := fmt.Sprint(x.name, " of ", x.l, " from ", x.from, " to ", x.to)
		if x.want == "none" {
			wantNone(t, got, ok, what)
			continue
		}
		if !ok {
			t.Error(what, "is none")
		}
		wantFloat(t, got, value(x.want), what)
	}
}

// P14.4: the functions of values.
func TestOverValues(t *testing.T) {
	wantOver(t, []overRow{
		{"avg_over_time", "1:1 2:2 3:6", 0, 9, "3"},
		{"sum_over_time", "1:1 2:2 3:6", 0, 9, "9"},
		{"sum_over_time", "1:1 2:1e16 3:-1e16", 0, 9, "0"},
		{"sum_over_time", "1:1e16 2:-1e16 3:1", 0, 9, "1"},
		{"min_over_time", "1:nan 2:2 3:1 4:nan", 0, 9, "1"},
		{"max_over_time", "1:nan 2:2 3:1 4:nan", 0, 9, "2"},
		{"count_over_time", "1:1 2:nan 3:6", 0, 9, "3"},
		{"last_over_time", "1:1 2:2 3:6", 0, 9, "6"},
		{"last_over_time", "1:1 2:nan", 0, 9, "nan"},
		{"stdvar_over_time", "1:1 2:3", 0, 9, "1"},
		{"stddev_over_time", "1:1 2:5", 0, 9, "2"},
		{"quantile_over_time", "1:2 2:1", 0, 9, "1.25"},
		{"present_over_time", "1:7 2:8", 0, 9, "1"},
		{"present_over_time", "1:nan", 0, 9, "1"},
		{"changes", "1:1 2:1 3:2 4:nan 5:nan", 0, 9, "2"},
		{"changes", "1:1", 0, 9, "0"},
		{"changes", "1:nan 2:1 3:nan", 0, 9, "2"},
		{"changes", "1:1 2:2 3:1 4:2", 0, 9, "3"},
		{"changes", "1:0 2:-0 3:0", 0, 9, "0"},
		{"changes", "1:inf 2:inf 3:-inf", 0, 9, "1"},
		{"changes", "1:1 2:stale 3:1 4:stale 5:2", 0, 9, "1"},
		{"resets", "1:3 2:1 3:2 4:1", 0, 9, "2"},
		{"resets", "1:3", 0, 9, "0"},
		{"resets", "1:1 2:2 3:2", 0, 9, "0"},
		{"resets", "1:1 2:nan 3:0", 0, 9, "0"},
		{"resets", "1:0 2:-0", 0, 9, "0"},
		{"resets", "1:inf 2:max 3:-inf", 0, 9, "2"},
		{"resets", "1:3 2:stale 3:2", 0, 9, "1"},
	})
}

// P14.4: the last two samples.
func TestOverLastTwo(t *testing.T) {
	wantOver(t, []overRow{
		{"irate", "10000:1 20000:5", 0, 90000, "0.4"},
		{"irate", "10000:1 20000:5 30000:2", 0, 90000, "0.2"},
		{"irate", "10000:1 20000:5 20500:6", 0, 90000, "2"},
		{"irate", "10000:-1 20000:-5", 0, 90000, "-0.5"},
		{"irate", "10000:5 20000:5", 0, 90000, "0"},
		{"irate", "10000:1 20000:stale 25000:4 26000:stale", 0, 90000, "0.2"},
		{"irate", "10000:1 20000:nan", 0, 90000, "nan"},
		{"irate", "10000:nan 20000:1", 0, 90000, "nan"},
		{"irate", "10000:inf 20000:1", 0, 90000, "0.1"},
		{"irate", "10000:1 20000:inf", 0, 90000, "inf"},
		{"irate", "10000:-max 20000:max", 0, 90000, "inf"},
		{"irate", "10000:1 10000:3", 0, 90000, "inf"},
		{"irate", "10000:1 10000:1", 0, 90000, "nan"},
		{"irate", "10000:1 10000:-3", 0, 90000, "-inf"},
		{"idelta", "10000:1 20000:5", 0, 90000, "4"},
		{"idelta", "10000:1 20000:5 30000:2", 0, 90000, "-3"},
		{"idelta", "10000:1 10000:5", 0, 90000, "4"},
		{"idelta", "10000:1 20000:stale 30000:2", 0, 90000, "1"},
		{"idelta", "10000:inf 20000:inf", 0, 90000, "nan"},
		{"idelta", "10000:max 20000:-max", 0, 90000, "-inf"},
	})
}

// P14.4: what a window's ends make of what a counter grew.
func TestOverStretched(t *testing.T) {
	wantOver(t, []overRow{
		{"increase", "10000:0 20000:10", 0, 30000, "20"},
		{"delta", "10000:0 20000:10", 0, 30000, "30"},
		{"rate", "10000:0 20000:10", 0, 30000, "0.6666666666666666"},
		{"increase", "10000:100 20000:110", 0, 30000, "30"},
		{"rate", "10000:100 20000:110", 0, 30000, "1"},
		// Ends as far away as there is no sample, and none.
		{"delta", "10000:0 20000:10", 10000, 20000, "none"},
		{"delta", "10000:0 20000:10", 9999, 20000, "10.001"},
		{"delta", "10000:4 20000:10", 5000, 25000, "12"},
		{"delta", "10000:10 20000:4", 5000, 25000, "-12"},
		// A counter that falls: 4 - 5 and 5, times 30 / 20; 1 - 5 and 5 and 3.
		{"increase", "10000:5 20000:3 30000:4", 0, 30000, "6"},
		{"increase", "10000:5 20000:3 30000:1", 0, 30000, "6"},
		{"delta", "10000:5 20000:3 30000:4", 0, 30000, "-1.5"},
		// What is added goes in order: -max and max, and then max more.
		{"increase", "10000:max 20000:0 30000:max 40000:0", 0, 50000, "inf"},
		{"increase", "10000:1e16 20000:1 30000:0", 0, 40000, "2"},
		{"delta", "10000:-max 20000:max", 0, 30000, "inf"},
		{"increase", "10000:-max 20000:max", 0, 30000, "inf"},
		{"rate", "10000:-max 20000:max", 0, 30000, "inf"},
		// A first value of 1 was 0 five seconds ago; one of 0 just now; one below 0 never.
		{"increase", "10000:1 20000:3", 0, 20000, "3"},
		{"delta", "10000:1 20000:3", 0, 20000, "4"},
		{"increase", "10000:-0 20000:10", 0, 30000, "20"},
		{"increase", "10000:-1 20000:9", 0, 30000, "30"},
		{"increase", "10000:-min 20000:10", 0, 30000, "30"},
		{"increase", "10000:0 20000:0", 0, 30000, "0"},
		{"increase", "10000:3 20000:3", 0, 30000, "0"},
		{"delta", "10000:3 20000:3", 0, 30000, "0"},
		{"increase", "10000:min 20000:1", 0, 20000, "1"},
		{"increase", "10000:max 20000:inf", 0, 30000, "inf"},
		// Far ends: half a step each; of what was 0 twelve seconds ago too.
		{"delta", "50000:0 60000:10", 0, 100000, "20"},
		{"increase", "50000:0 60000:10", 0, 100000, "15"},
		{"increase", "50000:10 60000:20", 0, 100000, "25"},
		{"increase", "50000:12 60000:22", 0, 100000, "20"},
		{"increase", "50000:11 60000:21", 0, 60000, "15"},
		{"increase", "50000:10.5 60000:20.5", 0, 60000, "20.5"},
		{"rate", "50000:0 60000:10", 0, 100000, "0.15"},
		// Just as far away as 1.1 of a step, and a bit less.
		{"delta", "50000:0 60000:10", 39000, 60000, "15"},
		{"delta", "50000:0 60000:10", 39001, 60000, "20.999000000000002"},
		{"delta", "50000:0 60000:10", 38999, 60000, "15"},
		{"delta", "50000:0 60000:10", 49999, 71000, "15.001"},
		{"delta", "50000:0 60000:10", 49999, 70999, "21"},
		{"delta", "50000:0 60000:10", 49999, 71001, "15.001"},
		{"delta", "50000:0 55000:4 70000:20", 39000, 70000, "25"},
		{"delta", "50000:0 53000:3", 46700, 53000, "6.300000000000001"}, // 3 times 1.1 is more than 3.3, as floats go
		{"delta", "50000:0 53000:3", 46699, 53000, "4.5"},
		// All at one time: no length to go by.
		{"rate", "10000:1 10000:3", 0, 30000, "nan"},
		{"increase", "10000:1 10000:3", 0, 30000, "nan"},
		{"delta", "10000:1 10000:3", 0, 30000, "nan"},
		{"delta", "10000:1 10000:1", 0, 10000, "nan"},
		{"delta", "10000:1 10000:3 20000:5", 0, 20000, "5"},
		{"increase", "10000:min 10000:max", 0, 20000, "nan"},
		// Odd values.
		{"rate", "10000:nan 20000:3", 0, 30000, "nan"},
		{"increase", "10000:1 20000:nan 30000:4", 0, 20000, "nan"},
		{"increase", "10000:2 20000:nan 30000:4", 0, 30000, "3"},
		{"increase", "10000:inf 20000:3", 0, 30000, "nan"},
		{"delta", "10000:inf 20000:3", 0, 30000, "-inf"},
		{"delta", "10000:inf 20000:inf", 0, 30000, "nan"},
		// Times at the ends.
		{"delta", "-9007199254740991:0 9007199254740992:2", -9007199254740992, 9007199254740992, "2"},
		{"rate", "-9007199254740991:1 9007199254740992:3", -9007199254740992, 9007199254740992, "1.1102230246251565e-13"},
		{"irate", "-9007199254740991:1 9007199254740992:3", -9007199254740992, 9007199254740992, "1.1102230246251565e-13"},
		{"delta", "0:0 10000:10", -9007199254740992, 9007199254740992, "20"},
	})
}

// P14.4: which samples a window has.
func TestOverWindow(t *testing.T) {
	const l = "10:1 20:2 30:3 40:4"
	wantOver(t, []overRow{
		{"sum_over_time", l, 0, 50, "10"},
		{"sum_over_time", l, 10, 40, "9"},
		{"sum_over_time", l, 9, 39, "6"},
		{"sum_over_time", l, 20, 30, "3"},
		{"sum_over_time", l, 19, 20, "2"},
		{"sum_over_time", l, 20, 29, "none"},
		{"sum_over_time", l, 40, 90, "none"},
		{"sum_over_time", l, -10, 9, "none"},
		{"sum_over_time", l, 30, 30, "none"},
		{"sum_over_time", l, 50, 0, "none"},
		{"count_over_time", "-20:1 -10:1 0:1 10:1", -20, 0, "2"},
		{"changes", l, 10, 40, "2"},
		{"resets", "10:9 20:8 30:7 40:9", 10, 40, "1"},
		{"idelta", "10:1 20:2 30:7 40:9", 10, 30, "5"},
		{"delta", "10:5 20:1 30:7 40:9", 10, 30, "12"},
		{"idelta", l, 10, 20, "none"},
		{"sum_over_time", "-9223372036854775808:1 0:2 9223372036854775807:4", math.MinInt, math.MaxInt, "6"},
		{"idelta", "-9223372036854775808:1 0:2 9223372036854775807:4", math.MinInt, math.MaxInt, "2"},
	})
}

// P14.4: stale markers are passed by, wherever they are, and other NaNs are not.
func TestOverStale(t *testing.T) {
	wantOver(t, []overRow{
		{"sum_over_time", "10:stale 20:2 30:3", 0, 90, "5"},
		{"sum_over_time", "10:1 20:stale 30:3", 0, 90, "4"},
		{"sum_over_time", "10:1 20:2 30:stale", 0, 90, "3"},
		{"sum_over_time", "10:stale 20:stale 30:stale 40:1", 0, 90, "1"},
		{"count_over_time", "10:1 20:-stale 30:nan 40:stale", 0, 90, "3"},
		{"last_over_time", "10:1 20:2 30:stale", 0, 90, "2"},
		{"min_over_time", "10:stale 20:2", 0, 90, "2"},
		{"present_over_time", "10:stale 20:2", 0, 90, "1"},
		{"delta", "10000:stale 20000:5 30000:stale 40000:9 50000:stale", 20000 - 1, 40000, "4.0002"},
		{"rate", "10000:stale 20000:5 30000:stale 40000:9 50000:stale", 10000, 50000, "0.2"},
	})
	for _, name := range strings.Fields(overs) {
		for _, l := range []string{"", "10:stale", "10:stale 20:stale", "10:stale 60:1 70:2"} {
			got, ok := funcs.Over(name, samples(l), 0.5, 0, 50)
			wantNone(t, got, ok, name, "of", l)
		}
	}
}

// P14.4: one sample, and names that there are not.
func TestOverRefuses(t *testing.T) {
	for _, name := range strings.Fields(overs) {
		for _, l := range []string{"10:1", "10:1 20:stale", "10:1 60:1", "0:1 10:1"} {
			got, ok := funcs.Over(name, samples(l), 0.5, 0, 50)
			if slices.Contains(strings.Fields(overPairs), name) {
				wantNone(t, got, ok, name, "of", l)
			} else if !ok {
				t.Error(name, "of", l, "is none")
			}
		}
	}
	names := []string{"", "nosuch", "_over_time", "over_time", "group_over_time", "absent_over_time", "avg", "sum", "min", "max", "count", "group", "stddev", "stdvar", "quantile", "last", "present", "Rate", "RATE", "rate ", "deriv", "abs", "timestamp", "sum_over_time_over_time", "\xff"}
	for _, name := range strings.Fields(overs) {
		names = append(names, strings.ToUpper(name), name+"_over_time", name[:len(name)-1], name+" ")
	}
	for _, name := range names {
		for _, l := range []string{"", "10:1", "10:1 20:2", "10:1 20:2 30:1"} {
			got, ok := funcs.Over(name, samples(l), 0.5, 0, 50)
			wantNone(t, got, ok, name, "of", l)
		}
	}
}

// overModel is what the chapter says of a function of a window, step by step.
func overModel(name string, l []api.Sample, arg float64, from, to int) (float64, bool) {
	var in []api.Sample
	var values []float64
	for _, x := range l {
		if x.T > from && x.T <= to && math.Float64bits(x.V) != api.StaleBits {
			in, values = append(in, x), append(values, x.V)
		}
	}
	n := len(in)
	if n == 0 {
		return 0, false
	}
	fell, changed := 0, 0
	for i := 1; i < n; i++ {
		if values[i] < values[i-1] {
			fell++
		}
		if a, b := values[i], values[i-1]; a != b && (a == a || b == b) {
			changed++
		}
	}
	switch {
	case slices.Contains(strings.Fields(overFolds), name):
		return foldModel(strings.Split(name, "_")[0], values, arg)
	case name == "present_over_time":
		return 1, true
	case name == "resets":
		return float64(fell), true
	case name == "changes":
		return float64(changed), true
	case n < 2 || !slices.Contains(strings.Fields(overPairs), name):
		return 0, false
	}
	length := func(from, to int) float64 { return by(float64(to-from), 1000) }
	if a, b := in[n-2], in[n-1]; name == "idelta" {
		return less(b.V, a.V), true
	} else if name == "irate" {
		d := less(b.V, a.V)
		if b.V < a.V {
			d = b.V
		}
		return by(d, length(a.T, b.T)), true
	}
	first, last := in[0], in[n-1]
	d := less(last.V, first.V)
	for i := 1; i < n && name != "delta"; i++ {
		if values[i] < values[i-1] {
			d = plus(d, values[i-1])
		}
	}
	s, b, e := length(first.T, last.T), length(from, first.T), length(last.T, to)
	a := by(s, float64(n-1))
	if z := times(s, by(first.V, d)); name != "delta" && d > 0 && !(first.V < 0) && z < b {
		b = z
	}
	x := s
	for _, end := range []float64{b, e} {
		if !(end < times(a, 1.1)) {
			end = by(a, 2)
		}
		x = plus(x, end)
	}
	f := by(x, s)
	if name == "rate" {
		f = by(f, length(from, to))
	}
	return times(d, f), true
}

// someSamples is up to 8 samples whose times rise, or two of them are alike.
func someSamples(r *rand.Rand) []api.Sample {
	at := r.Intn(100000) - 50000
	step := []int{1, 10, 1000, 15000, 1 << 50}[r.Intn(5)]
	usual := r.Intn(2) == 0
	var l []api.Sample
	for _, v := range floats(r, r.Intn(9)) {
		if usual {
			v = float64(r.Intn(100))
		}
		if r.Intn(6) == 0 {
			v = stale
		}
		l = append(l, api.Sample{T: at, V: v})
		switch r.Intn(20) {
		case 0:
		case 1:
			at += r.Intn(3*step) + 1
		default:
			at += step
		}
	}
	return l
}

// P14.4, R6: many windows of many samples.
func TestOverModel(t *testing.T) {
	r := rand.New(rand.NewSource(144))
	for range 12000 {
		l := someSamples(r)
		from, to := r.Intn(200000)-100000, r.Intn(200000)-100000
		if n := len(l); n > 0 && r.Intn(8) > 0 {
			step := (l[n-1].T-l[0].T)/n + 1
			from, to = l[r.Intn(n)].T-r.Intn(2*step), l[r.Intn(n)].T+r.Intn(2*step)
			if r.Intn(2) == 0 {
				from, to = l[0].T-r.Intn(2*step)-1, l[n-1].T+r.Intn(2*step)
			}
		}
		for _, name := range strings.Fields(overs + " absent_over_time group_over_time") {
			got, ok := funcs.Over(name, l, 0.3, from, to)
			want, wantOK := overModel(name, l, 0.3, from, to)
			what := fmt.Sprint(name, " of ", l, " from ", from, " to ", to)
			if !wantOK {
				wantNone(t, got, ok, what)
				continue
			}
			if !ok {
				t.Error(what, "is none")
			}
			wantFloat(t, got, want, what)
		}
	}
}

// told is what an iterator tells, up to that many.
func told(l []api.Sample, most int) string {
	var out []string
	if most > 0 {
		for at, v := range funcs.Rate(l) {
			if out = append(out, fmt.Sprint(at, ":", v)); len(out) == most {
				break
			}
		}
	}
	return strings.Join(out, " ")
}

// P14.5: how a counter grows.
func TestRate(t *testing.T) {
	for _, x := range []struct{ l, want string }{
		{"", ""},
		{"10:1", ""},
		{"10:stale", ""},
		{"10:stale 20:stale 30:stale", ""},
		{"10:1 20:stale", ""},
		{"10:1 20:4", "20:3"},
		{"10:1 20:4 30:stale 40:2 50:2", "20:3 40:2 50:0"},
		{"10:stale 20:4 30:5", "30:1"},
		{"10:5 20:0 30:-1 40:-1", "20:0 30:-1 40:0"},
		{"10:1 10:2 5:4", "10:1 5:2"},
		{"10:1 20:nan 30:2", "20:NaN 30:NaN"},
		{"10:-inf 20:inf 30:inf 40:1", "20:+Inf 30:NaN 40:1"},
		{"10:-max 20:max", "20:+Inf"},
		{"-9223372036854775808:1 9223372036854775807:2", "9223372036854775807:1"},
	} {
		if got := told(samples(x.l), math.MaxInt); got != x.want {
			t.Errorf("Rate of %s: %s; want %s", x.l, got, x.want)
		}
	}
	for at, v := range funcs.Rate(samples("1:stale 2:-stale 3:-stale 4:stale 5:nan")) {
		wantFloat(t, v, nan, at)
	}
}

// P14.5, R1: it may be stopped anywhere, and ranged over again.
func TestRateStops(t *testing.T) {
	r := rand.New(rand.NewSource(145))
	for range 300 {
		l := someSamples(r)
		all := strings.Fields(told(l, math.MaxInt))
		for most := range len(all) + 1 {
			if got := told(l, most); got != strings.Join(all[:most], " ") {
				t.Errorf("Rate of %v stopped at %d: %s", l, most, got)
			}
		}
		kept := slices.DeleteFunc(slices.Clone(l), func(x api.Sample) bool { return math.Float64bits(x.V) == api.StaleBits })
		rates, i := funcs.Rate(l), 0
		for range 2 {
			i = 0
			for at, v := range rates {
				i++
				want := less(kept[i].V, kept[i-1].V)
				if kept[i].V < kept[i-1].V {
					want = kept[i].V
				}
				wantFloat(t, v, want, "growth", i, "of", l)
				if at != kept[i].T {
					t.Error(at, "is told of", l)
				}
			}
			if i != max(len(kept)-1, 0) {
				t.Error(i, "are told of", l)
			}
			for range rates {
				break
			}
		}
	}
}
