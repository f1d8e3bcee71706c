package expo_test

import (
	"fmt"
	"slices"
	"strings"
	"testing"

	"vigil/api"
	"vigil/expo"
)

// plenty is more samples than a test has.
const plenty = 1 << 30

// speltLines is lines as a short text.
func speltLines(l []api.Line) string {
	var out []string
	for _, x := range l {
		out = append(out, spelt(x))
	}
	return strings.Join(out, "; ")
}

// wantBody reads a body that must be taken; lines is its samples as speltLines tells them.
func wantBody(t *testing.T, body, lines string, families ...api.Family) {
	t.Helper()
	l, f, at, e := expo.Read([]byte(body), plenty)
	if speltLines(l) != lines || !slices.Equal(f, families) || at != 0 || e != api.OK {
		t.Errorf("Read(%q) is %s, %q, %d, %d; want %s, %q", body, speltLines(l), f, at, e, lines, families)
	}
}

// wantBodyRefused reads a body that must be refused at a line.
func wantBodyRefused(t *testing.T, body string, most, at int, e api.Errno) {
	t.Helper()
	if l, f, gotAt, got := expo.Read([]byte(body), most); len(l) != 0 || len(f) != 0 || gotAt != at || got != e {
		t.Errorf("Read(%.200q, %d) is %v, %q, %d, %d; want %d, %d", body, most, l, f, gotAt, got, at, e)
	}
}

// P11.2: the chapter's Runs and Examples.
func TestReadRuns(t *testing.T) {
	wantBody(t, "# TYPE up gauge\n# HELP up a\\\\nb\n#x\nup 1", "up 1", api.Family{Name: "up", Kind: "gauge", Help: `a\nb`})
	wantBodyRefused(t, "# TYPE up foo", plenty, 1, api.ErrForm)
	wantBodyRefused(t, "up 1\nup 2\n", 1, 2, api.ErrLimit)
	wantBody(t, "", "")
	wantBody(t, "up\t1", "up 1")
	wantBodyRefused(t, `{a="1"} 1`, plenty, 1, api.ErrForm)
}

// P11.2: samples are told in order, the same one as often as it stands.
func TestReadSamples(t *testing.T) {
	for body, want := range map[string]string{
		"\n": "", "\n\n\n": "", " ": "", "\t \t": "", " \n\t\n \t \n": "", "up 1": "up 1", "up 1\n": "up 1", "\nup 1": "up 1", "\n\n up 1 \n\n": "up 1",
		"up 1\nup 1": "up 1; up 1", "b 1 5\na 2 4\nb 3 3\n": "b 1 5; a 2 4; b 3 3", "up{a=\"1\"} 1\nup{a=\"\\n\"}2\nup{} 3": "up{a=\"1\"} 1; up{a=\"\\n\"} 2; up 3",
		"a 1\n# a remark\n  # another\n\t#\n#\nb 2": "a 1; b 2", "a 1\n \t \nb 2\n \t ": "a 1; b 2",
	} {
		wantBody(t, body, want)
	}
}

// P11.2: whatever the reason for which a line is refused, it is ErrForm and the line's number.
func TestReadRefusals(t *testing.T) {
	over := strings.Repeat("x", api.MaxLabel+1)
	for _, line := range []string{
		`up`, `up `, `1up 1`, `up x`, `up 1 2 3`, `up 1 1e3`, `up 1 9007199254740993`, `up{a="1",a="2"} 1`, `up{__name__="x"} 1`, "up{a=\"\xff\"} 1", `up{a="\q"} 1`, `up{a="1`, `{a="1"} 1`, over + ` 1`, `up{` + many(64, "1") + `} 1`,
		"up 1\r", "\r", "\v", "\x00", "\xff", `up 1 # remark`, `"# x"`, "\u00a0", "\ufeffup 1",
		`# TYPE up foo`, `# TYPE up`, "# TYPE up \t", `# TYPE up Gauge`, `# TYPE up gauge x`, `# TYPE up gauges`, `# TYPE up "gauge"`, "# TYPE up gauge\r", "# TYPE up gauge\xff", `# TYPE up gauge#`, `# TYPE up info`, `# TYPE up unknown`, `# TYPE up stateset`, `# TYPE up counter gauge`, " \t# \tTYPE\t up\tfoo", "# TYPE up gau\\nge",
		"# HELP up \xff", "# HELP up a\xc3", "# HELP up \xc3\\n\xa9", "\t#\tHELP\tup\ta\xa9",
	} {
		wantBodyRefused(t, line, plenty, 1, api.ErrForm)
		wantBodyRefused(t, line+"\n", plenty, 1, api.ErrForm)
		wantBodyRefused(t, "up 1\n\n# HELP up x\n"+line, plenty, 4, api.ErrForm)
		wantBodyRefused(t, "\n \n"+line+"\n"+line+"\nup 1", plenty, 3, api.ErrForm)
		wantBodyRefused(t, line+"\nup 1\n", 0, 1, api.ErrForm)
	}
}

// P11.2: remarks say nothing, be they nearly HELP or TYPE.
func TestRemarks(t *testing.T) {
	for _, line := range []string{
		`#`, `##`, `# `, `#x`, `# x`, `# HELP`, `# HELP `, `# TYPE`, "# TYPE \t", `#HELP up x`, `#TYPE up foo`, `#TYPE up gauge`, `# help up x`, `# type up foo`, `# Type up foo`, `# HELPS up x`, `# TYPES up foo`, `# TYP up foo`, `# HELPup x`, `# TYPE: up foo`, `## TYPE up foo`, `# # TYPE up foo`, `# EOF`, `# UNIT up s`, `# TYPE\tup\tfoo`, "# TYPE\vup foo", "#\vTYPE up foo", "#\u00a0TYPE up foo", "# TYPE\u00a0up foo",
		`# TYPE 1 foo`, `# TYPE 1up foo`, `# TYPE -up foo`, `# TYPE {up} foo`, `# TYPE "up" foo`, `# TYPE up{} foo`, `# TYPE up, foo`, `# TYPE up=foo`, `# TYPE up-foo`, `# TYPE é foo`, `# TYPE upé foo`, "# TYPE up\xff foo", "# TYPE up\vfoo", "# TYPE up\r", "# HELP up\xff", "# \xff", "#\xff", "# HELP \xff", `# HELP 1 x`, "# HELP 1 \xff", "# HELP up\\n x",
		"# TYPE " + strings.Repeat("x", api.MaxLabel+1) + " foo", "# HELP " + strings.Repeat("x", api.MaxLabel+1) + " x",
	} {
		wantBody(t, line, "")
		wantBody(t, " \t"+line+"\nup 1\n"+line+"\n", "up 1")
	}
}

// P11.2: what is said of a metric, by HELP and TYPE.
func TestFamilies(t *testing.T) {
	just := strings.Repeat("x", api.MaxLabel)
	for body, want := range map[string]api.Family{
		`# TYPE up counter`: {Name: "up", Kind: "counter"}, `# TYPE up gauge`: {Name: "up", Kind: "gauge"}, `# TYPE up histogram`: {Name: "up", Kind: "histogram"}, `# TYPE up summary`: {Name: "up", Kind: "summary"}, `# TYPE up untyped`: {Name: "up", Kind: "untyped"},
		"# TYPE up gauge \t ": {Name: "up", Kind: "gauge"}, " \t#\t TYPE \t:up:9\t \tgauge": {Name: ":up:9", Kind: "gauge"}, "#\tTYPE\tup\tgauge\n": {Name: "up", Kind: "gauge"}, `# TYPE TYPE gauge`: {Name: "TYPE", Kind: "gauge"}, `# TYPE ` + just + ` gauge`: {Name: just, Kind: "gauge"},
		`# HELP up`: {Name: "up"}, "# HELP up \t ": {Name: "up"}, "# HELP up\n": {Name: "up"}, `# HELP up x`: {Name: "up", Help: "x"}, `# HELP up  a b  c `: {Name: "up", Help: "a b  c "}, "\t # \tHELP\t \tup\t \tx\t y \t": {Name: "up", Help: "x\t y \t"}, `# HELP HELP HELP`: {Name: "HELP", Help: "HELP"}, `# HELP ` + just + ` x`: {Name: just, Help: "x"},
		`# HELP up a\\b`: {Name: "up", Help: `a\b`}, `# HELP up a\nb`: {Name: "up", Help: "a\nb"}, `# HELP up a\\nb`: {Name: "up", Help: `a\nb`}, `# HELP up a\\\nb`: {Name: "up", Help: "a\\\nb"}, `# HELP up \\\\`: {Name: "up", Help: `\\`}, `# HELP up \\\`: {Name: "up", Help: `\\`}, `# HELP up \`: {Name: "up", Help: `\`}, `# HELP up \n`: {Name: "up", Help: "\n"}, `# HELP up x\ `: {Name: "up", Help: `x\ `},
		`# HELP up \"\t\q\N\0\`: {Name: "up", Help: `\"\t\q\N\0\`}, `# HELP up "x" {y}=1,#`: {Name: "up", Help: `"x" {y}=1,#`}, `# HELP up é∞😀`: {Name: "up", Help: "é∞😀"}, "# HELP up x\r\x00": {Name: "up", Help: "x\r\x00"}, "# HELP up \u00a0x": {Name: "up", Help: "\u00a0x"}, `# HELP up ` + just + just: {Name: "up", Help: just + just},
	} {
		wantBody(t, body, "", want)
		wantBody(t, "up 1\n"+body+"\nup 2", "up 1; up 2", want)
	}
}

// P11.2: metrics in the order in which each was named first, the last that was said of each.
func TestFamiliesOrder(t *testing.T) {
	up, down := api.Family{Name: "up"}, api.Family{Name: "down"}
	of := func(f api.Family, kind, help string) api.Family {
		return api.Family{Name: f.Name, Kind: kind, Help: help}
	}
	wantBody(t, "# TYPE up gauge\n# HELP up x\n", "", of(up, "gauge", "x"))
	wantBody(t, "# HELP up x\n# TYPE up gauge\n", "", of(up, "gauge", "x"))
	wantBody(t, "# HELP up x\n# HELP up y\n", "", of(up, "", "y"))
	wantBody(t, "# HELP up x\n# HELP up\n", "", up)
	wantBody(t, "# TYPE up gauge\n# TYPE up counter\n# TYPE up summary", "", of(up, "summary", ""))
	wantBody(t, "# TYPE up gauge\n# TYPE down counter\n# HELP up x\n# HELP down y\n# TYPE up counter", "", of(up, "counter", "x"), of(down, "counter", "y"))
	wantBody(t, "# HELP up\n# TYPE down gauge\n# TYPE up gauge", "", of(up, "gauge", ""), of(down, "gauge", ""))
	wantBody(t, "down 1\n# TYPE up gauge\nup 2\n# HELP down x", "down 1; up 2", of(up, "gauge", ""), of(down, "", "x"))
	wantBody(t, "# HELP up x\n# TYPE Up gauge\n# HELP up: y", "", of(up, "", "x"), api.Family{Name: "Up", Kind: "gauge"}, api.Family{Name: "up:", Help: "y"})
	wantBody(t, "# TYPE other gauge", "", api.Family{Name: "other", Kind: "gauge"})
}

// P11.2: most is how many samples there may be; remarks and lines of blanks don't count.
func TestLimit(t *testing.T) {
	body := "# HELP up x\n\na 1\n# remark\nb 2\n \t\n c 3\n# TYPE up gauge"
	for most := 3; most < 6; most++ {
		if l, f, at, e := expo.Read([]byte(body), most); len(l) != 3 || len(f) != 1 || at != 0 || e != api.OK {
			t.Error(most, l, f, at, e)
		}
	}
	for most, at := range map[int]int{2: 7, 1: 5, 0: 3, -1: 3, -1 << 63: 3} {
		wantBodyRefused(t, body, most, at, api.ErrLimit)
	}
	for _, most := range []int{0, -1, -1 << 63} {
		for _, s := range []string{"", "\n", " ", "# HELP up x\n", "#\n\n"} {
			if l, _, at, e := expo.Read([]byte(s), most); len(l) != 0 || at != 0 || e != api.OK {
				t.Errorf("%q, %d: %v, %d, %d", s, most, l, at, e)
			}
		}
		wantBodyRefused(t, "up 1", most, 1, api.ErrLimit)
		wantBodyRefused(t, "# TYPE up foo", most, 1, api.ErrForm)
	}
	// The first line that is refused ends it.
	wantBodyRefused(t, "a 1\nb 2\nc x\n", 1, 2, api.ErrLimit)
	wantBodyRefused(t, "a 1\nb x\nc 3\n", 1, 2, api.ErrForm)
	wantBodyRefused(t, "a 1\n# TYPE a foo\nb 2\n", 1, 2, api.ErrForm)
}

// told is what Lines tells of a body, with numbers.
func told(body string) []string {
	var out []string
	for n, s := range expo.Lines([]byte(body)) {
		out = append(out, fmt.Sprint(n, ":", s))
	}
	return out
}

// P11.3: lines and their numbers; a line end ends a line, and begins none.
func TestLines(t *testing.T) {
	for body, want := range map[string][]string{
		"": nil, "\n": {"1:"}, "\n\n": {"1:", "2:"}, "a": {"1:a"}, "a\n": {"1:a"}, "a\n\n": {"1:a", "2:"}, "\na": {"1:", "2:a"}, "a\nb": {"1:a", "2:b"}, "a\nb\n": {"1:a", "2:b"}, "a\n\nb": {"1:a", "2:", "3:b"}, " \n\t": {"1: ", "2:\t"},
		"a\r\nb\rc\n": {"1:a\r", "2:b\rc"}, "\xff\n\x00\n": {"1:\xff", "2:\x00"}, "# x\nup 1": {"1:# x", "2:up 1"}, "é\u2028\u0085\v\f": {"1:é\u2028\u0085\v\f"},
	} {
		if got := told(body); !slices.Equal(got, want) {
			t.Errorf("Lines(%q) tells %q, not %q", body, got, want)
		}
	}
	for n, s := range expo.Lines(nil) {
		t.Error(n, s)
	}
}

// P11.3: an iterator may be stopped anywhere, and ranged over again, also while it is ranged over.
func TestLinesStopped(t *testing.T) {
	want := []string{"1:a", "2:", "3:b", "4:c"}
	lines := expo.Lines([]byte("a\n\nb\nc\n"))
	for stop := range len(want) + 1 {
		var got []string
		for n, s := range lines {
			if len(got) == stop {
				break
			}
			got = append(got, fmt.Sprint(n, ":", s))
		}
		if !slices.Equal(got, want[:stop]) {
			t.Error(stop, got)
		}
	}
	var outer []string
	for n, s := range lines {
		outer = append(outer, fmt.Sprint(n, ":", s))
		var inner []string
		for n, s := range lines {
			if inner = append(inner, fmt.Sprint(n, ":", s)); len(inner) == len(outer) {
				break
			}
		}
		if !slices.Equal(inner, outer) {
			t.Error(inner, outer)
		}
	}
	if !slices.Equal(outer, want) {
		t.Error(outer)
	}
}

// A body of many lines and one of a long line are read in time that grows with their length.
func TestGreatBodies(t *testing.T) {
	const count = 100000
	l, _, _, e := expo.Read([]byte(strings.Repeat("up{a=\"1\"} 1 2\n", count)), count)
	if len(l) != count || e != api.OK {
		t.Error(len(l), e)
	}
	var types strings.Builder
	for i := range count {
		fmt.Fprintf(&types, "# TYPE m%d gauge\n", i)
	}
	if _, f, _, e := expo.Read([]byte(types.String()+types.String()), 0); len(f) != count || e != api.OK || f[count-1] != (api.Family{Name: fmt.Sprint("m", count-1), Kind: "gauge"}) {
		t.Error(len(f), e)
	}
	wantBodyRefused(t, strings.Repeat("\n", count)+"up{"+many(count, "1")+"} 1", plenty, count+1, api.ErrForm)
	wantBody(t, strings.Repeat(" ", 1<<20)+"up{"+many(count, "")+"}"+strings.Repeat(" ", 1<<20)+"1", "up 1")
	wantBodyRefused(t, strings.Repeat("{", 1<<20), plenty, 1, api.ErrForm)
	wantBodyRefused(t, `up{a="`+strings.Repeat(`\\`, 1<<19), plenty, 1, api.ErrForm)
}
