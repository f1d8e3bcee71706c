package expo_test

import (
	"math/rand"
	"regexp"
	"slices"
	"strings"
	"testing"
	"unicode/utf8"

	"vigil/api"
	"vigil/expo"
	"vigil/labels"
	"vigil/num"
)

// The chapter's format, as expressions; of numbers they say alone where they begin and end.
const (
	blanksForm = `[ \t]*`
	metricForm = `[a-zA-Z_:][a-zA-Z0-9_:]*`
	labelForm  = blanksForm + `([a-zA-Z_][a-zA-Z0-9_]*)` + blanksForm + `=` + blanksForm + `"((?:[^"\\]|\\["\\n])*)"` + blanksForm
)

var (
	nameForm    = regexp.MustCompile(`^` + blanksForm + metricForm)
	headForm    = regexp.MustCompile(`^` + blanksForm + `(` + metricForm + `)` + blanksForm + `\{`)
	firstForm   = regexp.MustCompile(`^,?` + labelForm)
	numbersForm = regexp.MustCompile(`^[ \t]*([^ \t]+)[ \t]*([^ \t]*)`)
	wholeForm   = regexp.MustCompile(`^` + blanksForm + metricForm + `(?:` + blanksForm + `\{(?:` + labelForm + `(?:,` + labelForm + `)*,?)?` + blanksForm + `\}` + blanksForm + `|[ \t]+[^ \t{])[^ \t]*(?:[ \t]+[^ \t]+)?` + blanksForm + `$`)
	remarkForm  = regexp.MustCompile(`(?s)^[ \t]*#[ \t]+(HELP|TYPE)[ \t]+(` + metricForm + `)(?:[ \t]+(.*))?$`)
	kindForm    = regexp.MustCompile(`^(counter|gauge|histogram|summary|untyped)[ \t]*$`)
)

// bytewise is a text of as many characters as it had bytes, so that an expression takes it byte by byte.
func bytewise(s string) string {
	out := []byte(s)
	for i, b := range out {
		if b >= utf8.RuneSelf {
			out[i] = 0x7f
		}
	}
	return string(out)
}

// begins tells whether something behind s would make a line of the format of it.
func begins(s string) bool {
	for _, more := range []string{"", "1", " 1", "a 1", `} 1`, `a=""} 1`, `=""} 1`, `""} 1`, `"} 1`, `n"} 1`} {
		if hasForm(s + more) {
			return true
		}
	}
	return false
}

// hasForm tells whether s is a line of the format, whatever its numbers are.
func hasForm(s string) bool {
	s = bytewise(s)
	if !wholeForm.MatchString(s) {
		return false
	}
	// Behind labels a value must stand, which the expression leaves open.
	if at := headForm.FindStringIndex(s); at != nil {
		return strings.Trim(s[labelsEnd(s):], " \t") != ""
	}
	return true
}

// labelsEnd is the place behind the brace that closes a line's labels; its length, if none does.
func labelsEnd(s string) int {
	head := headForm.FindStringIndex(bytewise(s))
	at := head[1]
	for {
		found := firstForm.FindStringIndex(bytewise(s[at:]))
		if found == nil {
			break
		}
		at += found[1]
	}
	rest := strings.TrimLeft(strings.TrimPrefix(strings.TrimLeft(s[at:], " \t"), ","), " \t")
	if !strings.HasPrefix(rest, "}") {
		return len(s)
	}
	return len(s) - len(rest) + 1
}

// modelLine reads a line without a line end as the chapter's words say.
func modelLine(s string) (api.Line, int, api.Errno) {
	wrong := len(s)
	for wrong > 0 && !begins(s[:wrong]) {
		wrong--
	}
	// From here on s[:wrong] is the longest beginning that is one.
	l, numbers, at, e := modelLabels(s[:wrong])
	if e != api.OK {
		return api.Line{}, at, e
	}
	var x api.Line
	if numbers >= 0 {
		found := numbersForm.FindStringSubmatchIndex(bytewise(s[numbers:wrong]))
		if found != nil {
			if x.V, e = num.Parse(s[numbers+found[2] : numbers+found[3]]); e != api.OK {
				return api.Line{}, numbers + found[2], api.ErrForm
			}
			if found[5] > found[4] {
				x.HasT = true
				x.T, e = num.Int(s[numbers+found[4] : numbers+found[5]])
				if e != api.OK || x.T < -api.MaxTime || x.T > api.MaxTime {
					return api.Line{}, numbers + found[4], api.ErrForm
				}
			}
		}
	}
	if wrong < len(s) || !hasForm(s) {
		return api.Line{}, wrong, api.ErrForm
	}
	if slices.ContainsFunc(l, func(x api.Label) bool { return x.Name == "__name__" }) {
		return api.Line{}, 0, api.ErrName
	}
	name := strings.TrimLeft(s, " \t")
	l = append(l, api.Label{Name: "__name__", Value: regexp.MustCompile(`^` + metricForm).FindString(name)})
	if x.Labels, e = labels.New(l); e != api.OK {
		return api.Line{}, 0, e
	}
	return x, 0, api.OK
}

// modelLabels is the labels that are whole in the beginning of a line, where its numbers begin (-1, if they don't yet), or the first refusal among the labels.
func modelLabels(s string) (l []api.Label, numbers, at int, e api.Errno) {
	head := headForm.FindStringIndex(bytewise(s))
	if head == nil {
		name := nameForm.FindString(s)
		if name == "" || len(name) == len(s) {
			return nil, -1, 0, api.OK
		}
		return nil, len(name), 0, api.OK
	}
	for at := head[1]; ; {
		found := firstForm.FindStringSubmatchIndex(bytewise(s[at:]))
		if found == nil {
			break
		}
		name, value := s[at+found[2]:at+found[3]], s[at+found[4]:at+found[5]]
		if !utf8.ValidString(value) {
			return nil, -1, at + found[4] - 1, api.ErrForm
		}
		if slices.ContainsFunc(l, func(x api.Label) bool { return x.Name == name }) {
			return nil, -1, at + found[2], api.ErrTwice
		}
		l = append(l, api.Label{Name: name, Value: strings.NewReplacer(`\\`, `\`, `\"`, `"`, `\n`, "\n").Replace(value)})
		at += found[1]
	}
	return l, labelsEnd(s), 0, api.OK
}

// modelReadLine reads any text as the chapter's words say.
func modelReadLine(s string) (api.Line, int, api.Errno) {
	front, _, more := strings.Cut(s, "\n")
	x, at, e := modelLine(front)
	if more && e == api.OK {
		return api.Line{}, len(front), api.ErrForm
	}
	return x, at, e
}

// modelRead reads a body as the chapter's words say.
func modelRead(body string, most int) (lines []api.Line, families []api.Family, at int, e api.Errno) {
	for i, s := range strings.Split(strings.TrimSuffix(body, "\n"), "\n") {
		if body == "" || strings.Trim(s, " \t") == "" {
			continue
		}
		if strings.TrimLeft(s, " \t")[0] != '#' {
			x, _, e := modelLine(s)
			if e != api.OK {
				return nil, nil, i + 1, api.ErrForm
			}
			if lines = append(lines, x); len(lines) > most {
				return nil, nil, i + 1, api.ErrLimit
			}
			continue
		}
		// Texts that are no UTF-8 are not for expressions.
		found := remarkForm.FindStringSubmatchIndex(bytewise(s))
		if found == nil {
			continue
		}
		rest := ""
		if found[6] >= 0 {
			rest = s[found[6]:]
		}
		name := s[found[4]:found[5]]
		at := slices.IndexFunc(families, func(f api.Family) bool { return f.Name == name })
		if at < 0 {
			at = len(families)
			families = append(families, api.Family{Name: name})
		}
		if s[found[2]:found[3]] == "HELP" {
			families[at].Help = strings.NewReplacer(`\\`, `\`, `\n`, "\n").Replace(rest)
		} else if families[at].Kind = strings.TrimRight(rest, " \t"); !kindForm.MatchString(rest) {
			return nil, nil, i + 1, api.ErrForm
		}
		if !utf8.ValidString(rest) {
			return nil, nil, i + 1, api.ErrForm
		}
	}
	return lines, families, 0, api.OK
}

// checkLine holds a line against the model.
func checkLine(t *testing.T, s string) api.Errno {
	t.Helper()
	want, wantAt, wantE := modelReadLine(s)
	got, at, e := expo.ReadLine(s)
	if at != wantAt || e != wantE || !same(got, want) {
		t.Fatalf("ReadLine(%q) is %v, %d, %d; the model's is %v, %d, %d", s, got, at, e, want, wantAt, wantE)
	}
	return e
}

// someTexts are lines of each form.
var someTexts = []string{
	`up 1`, `up{a="1",} 2 3`, `up { a = "x" , b="y" } NaN`, ` up{a="\\\"\n"}-1 -5 `, `a:b{} .5`, "u\t{\tb\t=\t\"\"\t}\t1\t2\t", `up{__name__="x",a="1"} 1`, `up{a="1",b="2",a="3"} 1`, "up{a=\"é\",b=\"\xff\"} 1 2 3", `up x 1`, `up 1 x 2`, `up{a="1" b="2"} 1`, "up 1\nup 2",
}

var someBytes = []byte(" \t{}=,\"\\n1-+.eEa_:#x\n\xff\xc3\xa9")

// P11.1: each short change of each line, and each cut, is read, or refused at the place, as the model says.
func TestChangedLines(t *testing.T) {
	taken, refused := 0, 0
	check := func(s string) {
		if checkLine(t, s) == api.OK {
			taken++
		} else {
			refused++
		}
	}
	for _, s := range someTexts {
		for i := range len(s) + 1 {
			check(s[:i])
			check(s[i:])
			for _, b := range someBytes {
				check(s[:i] + string([]byte{b}) + s[i:])
				if i < len(s) {
					check(s[:i] + string([]byte{b}) + s[i+1:])
				}
			}
			for j := i + 1; j <= len(s); j++ {
				check(s[:i] + s[j:])
			}
		}
	}
	if taken < 500 || refused < 500 {
		t.Error(taken, refused)
	}
}

// P11.1: lines of pieces at random.
func TestRandomLines(t *testing.T) {
	r := rand.New(rand.NewSource(3))
	pieces := []string{" ", "\t", "up", "a", "b", "__name__", "{", "}", "=", `"`, `"1"`, `"\n"`, `""`, ",", `\`, "1", "-5", "1e3", "NaN", "9007199254740993", `a="1"`, `b="2",`, `__name__="x"`, "{}", " 1", "\xff", "é", "\n", "#"}
	times := map[api.Errno]int{}
	for range 60000 {
		s := ""
		if r.Intn(4) > 0 {
			s = []string{"up", "up{", `up{a="1",`, `up{a="1"`, "up 1", "up ", `up{__name__="x"`}[r.Intn(7)]
		}
		for range r.Intn(7) {
			s += pieces[r.Intn(len(pieces))]
		}
		times[checkLine(t, s)]++
	}
	if len(times) < 4 || times[api.OK] < 100 {
		t.Error(times)
	}
}

// checkBody holds a body against the model, and against the lines that it has.
func checkBody(t *testing.T, body string, most int) api.Errno {
	t.Helper()
	lines, families, wantAt, wantE := modelRead(body, most)
	got, gotFamilies, at, e := expo.Read([]byte(body), most)
	if at != wantAt || e != wantE || !slices.EqualFunc(got, lines, same) || !slices.Equal(gotFamilies, families) {
		t.Fatalf("Read(%q, %d) is %v, %q, %d, %d; the model's is %v, %q, %d, %d", body, most, got, gotFamilies, at, e, lines, families, wantAt, wantE)
	}
	if told := len(told(body)); at > told || len(got) > told {
		t.Fatalf("Read(%q) goes to line %d, and tells %d, of %d", body, at, len(got), told)
	}
	return e
}

// P11.2 and P11.4: bodies of lines at random, with any limit.
func TestRandomBodies(t *testing.T) {
	r := rand.New(rand.NewSource(4))
	good := []string{"", " \t", "#", "# x", "# HELP up", "# HELP up a\\\\b\\n\\c ", "# HELP b  \té", "# TYPE up gauge", "# TYPE b counter\t", "#TYPE up foo", "#\tTYPE\ta\tuntyped", "up 1", "up{a=\"1\"}2 3", " b -Inf ", "\ta{b=\"\"} 1"}
	bad := []string{"up", "# TYPE up foo", "# HELP up \xff", "up{a=\"1\",a=\"1\"} 1", "x y", "up{__name__=\"x\"} 1", "# TYPE up"}
	times := map[api.Errno]int{}
	for range 30000 {
		var l []string
		for range r.Intn(8) {
			if r.Intn(20) == 0 {
				l = append(l, bad[r.Intn(len(bad))])
			} else {
				l = append(l, good[r.Intn(len(good))])
			}
		}
		body := strings.Join(l, "\n") + strings.Repeat("\n", r.Intn(2))
		times[checkBody(t, body, r.Intn(6)-1)]++
	}
	if len(times) < 3 {
		t.Error(times)
	}
}

// P11.2: each short change of remarks.
func TestChangedRemarks(t *testing.T) {
	for _, s := range []string{"# TYPE up gauge ", " #\tHELP  a:b \\\\x\\ny\\z", "# HELP up", "#TYPE up foo", "# TYPE up summary\n# HELP up x\n# TYPE b untyped\nup 1"} {
		for i := range len(s) + 1 {
			checkBody(t, s[:i], 1)
			checkBody(t, s[i:], 1)
			for _, b := range someBytes {
				checkBody(t, s[:i]+string([]byte{b})+s[i:], 1)
				if i < len(s) {
					checkBody(t, s[:i]+string([]byte{b})+s[i+1:], 0)
				}
			}
			for j := i + 1; j <= len(s); j++ {
				checkBody(t, s[:i]+s[j:], 1)
			}
		}
	}
}

// R1: any bytes are read or refused, and as the model says.
func TestRandomBytes(t *testing.T) {
	r := rand.New(rand.NewSource(5))
	for range 30000 {
		b := make([]byte, r.Intn(12))
		for i := range b {
			b[i] = someBytes[r.Intn(len(someBytes))]
			if r.Intn(8) == 0 {
				b[i] = byte(r.Intn(256))
			}
		}
		checkLine(t, string(b))
		checkBody(t, string(b), r.Intn(3))
	}
}

// P11.4: Read goes through just the lines that Lines tells: as many samples, and a refusal at the number that a line has there.
func TestReadByLines(t *testing.T) {
	r := rand.New(rand.NewSource(6))
	for range 5000 {
		body := ""
		for range r.Intn(6) {
			body += []string{"up 1", "\n", "\n", "x", "# y", " "}[r.Intn(6)]
		}
		count, wrong := 0, 0
		for n, s := range expo.Lines([]byte(body)) {
			said := strings.Trim(s, " \t")
			if said == "" || said[0] == '#' {
				continue
			}
			if _, _, e := expo.ReadLine(s); e != api.OK {
				wrong = n
				break
			}
			count++
		}
		l, _, at, e := expo.Read([]byte(body), plenty)
		if wrong > 0 && (at != wrong || e != api.ErrForm) || wrong == 0 && (len(l) != count || e != api.OK) {
			t.Fatalf("%q: %d samples, %d, %d; by lines %d, %d", body, len(l), at, e, count, wrong)
		}
	}
}
