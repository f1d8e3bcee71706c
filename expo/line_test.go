package expo_test

import (
	"math"
	"strconv"
	"strings"
	"testing"
	"unicode/utf8"

	"vigil/api"
	"vigil/expo"
	"vigil/labels"
	"vigil/num"
)

// spelt is a line as a short text.
func spelt(x api.Line) string {
	s := labels.Text(x.Labels) + " " + num.Text(x.V)
	if x.HasT {
		s += " " + strconv.Itoa(x.T)
	}
	return s
}

// same tells whether two lines are the same, bit by bit.
func same(a, b api.Line) bool {
	return labels.Compare(a.Labels, b.Labels) == 0 && math.Float64bits(a.V) == math.Float64bits(b.V) && a.T == b.T && a.HasT == b.HasT
}

// zero tells whether nothing is in a line.
func zero(x api.Line) bool { return len(x.Labels) == 0 && same(x, api.Line{}) }

// wantLine reads a line that must be taken, and tells it.
func wantLine(t *testing.T, s, want string) api.Line {
	t.Helper()
	x, at, e := expo.ReadLine(s)
	if at != 0 || e != api.OK || spelt(x) != want || !labels.Right(x.Labels) || !x.HasT && x.T != 0 {
		t.Errorf("ReadLine(%q) is %s, %v, %d, %d; want %s", s, spelt(x), x, at, e, want)
	}
	return x
}

// wantRefused reads a line that must be refused.
func wantRefused(t *testing.T, s string, at int, e api.Errno) {
	t.Helper()
	if x, gotAt, got := expo.ReadLine(s); gotAt != at || got != e || !zero(x) {
		t.Errorf("ReadLine(%.200q) is %v, %d, %d; want %d, %d", s, x, gotAt, got, at, e)
	}
}

// P11.1: the chapter's Runs and Examples.
func TestRuns(t *testing.T) {
	wantLine(t, `up 1`, `up 1`)
	wantLine(t, `up{a="1",} 2 3`, `up{a="1"} 2 3`)
	wantLine(t, `up { a = "x" , b="y" } NaN`, `up{a="x",b="y"} NaN`)
	wantLine(t, `up{a="1"}2`, `up{a="1"} 2`)
	wantLine(t, "up\t1", `up 1`)
	for s, at := range map[string]int{`up 1 2 3`: 7, `up`: 2, `1up 1`: 0, `up{a="1",,} 1`: 9, `up x`: 3, `up{a=1} 1`: 5, `up{a="\q"} 1`: 7, `up 1 1e3`: 5, `{a="1"} 1`: 0} {
		wantRefused(t, s, at, api.ErrForm)
	}
	wantRefused(t, `up{a="1",a="2"} 1`, 9, api.ErrTwice)
	wantRefused(t, `up{__name__="x"} 1`, 0, api.ErrName)
}

// P11.1: names, labels, values and times as they may stand.
func TestLinesTaken(t *testing.T) {
	for s, want := range map[string]string{
		`a 1`: `a 1`, `_ 1`: `_ 1`, `: 1`: `: 1`, `:a:9_Z 1`: `:a:9_Z 1`, `Z9 1`: `Z9 1`, `HELP 1`: `HELP 1`, `NaN NaN`: `NaN NaN`, `Inf -Inf`: `Inf -Inf`,
		`up{} 1`: `up 1`, `up{}1`: `up 1`, `up{ } 1`: `up 1`, `up {}	1`: `up 1`,
		`up{a="1"} 1`: `up{a="1"} 1`, `up{b="2",a="1"} 1`: `up{a="1",b="2"} 1`, `up{_="1",a9="2",Z="3"}1`: `up{Z="3",_="1",a9="2"} 1`,
		`up{a="1",b="2",c="3"} 1`: `up{a="1",b="2",c="3"} 1`, `up{a="1",b="2",c="3",} 1`: `up{a="1",b="2",c="3"} 1`, `up{a="1", } 1`: `up{a="1"} 1`,
		`up{a=""} 1`: `up 1`, `up{a="",b="2",c="",} 1`: `up{b="2"} 1`, `up{job="up"} 1`: `up{job="up"} 1`, `up{__name="1",__name___="2"} 1`: `up{__name="1",__name___="2"} 1`,
		`up{a="{,}= #\\"} 1`: `up{a="{,}= #\\"} 1`, `up{a="\\\"\n\\n"} 1`: `up{a="\\\"\n\\n"} 1`, `up{a="\""} 1`: `up{a="\""} 1`, `up{a="é∞😀"} 1`: `up{a="é∞😀"} 1`,
		"up{a=\"\t\r\x00'`\"} 1": "up{a=\"\t\r\x00'`\"} 1",
		`up 0`:                   `up 0`, `up -0`: `up -0`, `up +1.5e3`: `up 1500`, `up .5`: `up 0.5`, `up 5.`: `up 5`, `up 1e999`: `up +Inf`, `up -infinity`: `up -Inf`, `up nan`: `up NaN`, `up +Inf`: `up +Inf`, `up 0001`: `up 1`,
		`up 1 0`: `up 1 0`, `up 1 -1`: `up 1 -1`, `up 1 9007199254740992`: `up 1 9007199254740992`, `up 1 -9007199254740992`: `up 1 -9007199254740992`, `up{a="1"}1 2`: `up{a="1"} 1 2`,
	} {
		wantLine(t, s, want)
	}
	if x := wantLine(t, `up{a="\\\"\n\\n"} 1`, `up{a="\\\"\n\\n"} 1`); labels.Get(x.Labels, "a") != "\\\"\n\\n" {
		t.Error(x)
	}
}

// P11.1: a value is bit by bit what num reads of it.
func TestValueBits(t *testing.T) {
	for s, bits := range map[string]uint64{"nan": 0x7ff8000000000001, "-NaN": 0x7ff8000000000001, "-0": 1 << 63, "0": 0, "5e-324": 1, "-inf": 0xfff0000000000000, "Infinity": 0x7ff0000000000000, "0.1": 0x3fb999999999999a} {
		if x, _, e := expo.ReadLine("up " + s); e != api.OK || math.Float64bits(x.V) != bits {
			t.Errorf("%s is %x, %d", s, math.Float64bits(x.V), e)
		}
	}
}

// P11.1: the places of refusals by form.
func TestForm(t *testing.T) {
	for s, at := range map[string]int{
		``: 0, ` `: 1, " \t": 2, `#`: 0, ` # up 1`: 1, `9`: 0, `-up 1`: 0, `=`: 0, `"up" 1`: 0, "\xff 1": 0, `é 1`: 0, "\x00": 0, "\r": 0, "\vup 1": 0, `{} 1`: 0, `  {} 1`: 2, `.up 1`: 0,
		`up`: 2, `up `: 3, "up\t": 3, `up-1`: 2, `up=1`: 2, `up,`: 2, `up.x 1`: 2, `up"`: 2, `up}`: 2, `up+1`: 2, `upé 1`: 2, "up\r1": 2, "up\v1": 2, "up\u00a01": 2,
		`up{`: 3, `up {`: 4, `up{ `: 4, `up{,`: 3, `up{,} 1`: 3, `up{ , } 1`: 4, `up{=`: 3, `up{"`: 3, `up{9="1"} 1`: 3, `up{:a="1"} 1`: 3, `up{é="1"} 1`: 3, `up{{`: 3, `up {1`: 4, `up{#`: 3,
		`up{a`: 4, `up{a `: 5, `up{a:b="1"} 1`: 4, `up{a-b="1"} 1`: 4, `up{a}`: 4, `up{a,`: 4, `up{a b`: 5, `up{a"1"} 1`: 4, `up{a:="1"} 1`: 4,
		`up{a=`: 5, `up{a= `: 6, `up{a=}`: 5, `up{a='1'} 1`: 5, `up{a==`: 5, `up{a=,`: 5, `up{a=\"`: 5, `up{a=b`: 5,
		`up{a="`: 6, `up{a="1`: 7, `up{a="\`: 7, `up{a="\\`: 8, `up{a="\"`: 8, `up{a="\"} 1`: 11, `up{a="\n`: 8, `up{a="\t"} 1`: 7, `up{a="\'"} 1`: 7, `up{a="\N"} 1`: 7, `up{a="\ n"} 1`: 7, `up{a="x\\\0"} 1`: 10, `up{a="\u00e9"} 1`: 7, "up{a=\"\\\xff\"} 1": 7,
		`up{a="1"`: 8, `up{a="1" `: 9, `up{a="1"b="2"} 1`: 8, `up{a="1" b="2"} 1`: 9, `up{a="1";`: 8, `up{a="1"=`: 8, `up{a="1""`: 8, `up{a="1"{`: 8, `up{a="1"1`: 8, `up{a="1"\`: 8,
		`up{a="1",`: 9, `up{a="1", `: 10, `up{a="1", , } 1`: 10, `up{a="1",9`: 9, `up{a="1",="2"} 1`: 9, `up{a="1","2"} 1`: 9, `up{a="1",b} 1`: 10, `up{a="1",}`: 10, `up{a="1",,`: 9,
		`up{}`: 4, `up{} `: 5, `up{}}`: 4, `up{}{`: 4, `up{} {} 1`: 5, `up{},1`: 4, `up{}x`: 4, `up{}#`: 4, `up{}=1`: 4, `up{}"1"`: 4,
		`up x`: 3, `up  x`: 4, `up 1x`: 3, `up 1,5`: 3, `up 0x1`: 3, `up 1_0`: 3, `up --1`: 3, `up .`: 3, `up 1e`: 3, `up -`: 3, `up infinit`: 3, `up "1"`: 3, `up }`: 3, `up 1}`: 3, `up é`: 3, "up \xff": 3, "up 1\xff": 3, "up 1\r": 3, "up 1\v2": 3, "up \x00": 3, `up 1# x`: 3, `up 1{}`: 3, `up x 1`: 3, `up x x x`: 3, `up{a="1"} x`: 10, `up{a="1"}x 5`: 9, `up nan(1)`: 3,
		`up 1 x`: 5, `up 1  x`: 6, `up 1 1.5`: 5, `up 1 1.`: 5, `up 1 +1`: 5, `up 1 01`: 5, `up 1 -0`: 5, `up 1 -`: 5, `up 1 NaN`: 5, `up 1 Inf`: 5, `up 1 1_0`: 5, `up 1 1x`: 5, `up 1 {}`: 5, `up 1 # x`: 5, `up 1 #`: 5, "up 1 1\r": 5, "up 1 \xff": 5, `up 1 x 3`: 5, `up 1 1e3 x`: 5,
		`up 1 9007199254740993`: 5, `up 1 -9007199254740993`: 5, `up 1 9223372036854775807`: 5, `up 1 -9223372036854775808`: 5, `up 1 9223372036854775808`: 5, `up 1 99999999999999999999999`: 5, `up 1 9007199254740993 3`: 5,
		`up 1 2 #`: 7, `up 1 2 x`: 7, `up 1 2  3`: 8, `up{}1 2 3 4`: 8, "up 1 2\t\xff": 7, `up 1 2 }`: 7,
	} {
		wantRefused(t, s, at, api.ErrForm)
	}
}

// P11.1: what num refuses for its length is refused here, too, at the first byte.
func TestLongNumbers(t *testing.T) {
	wantLine(t, "up "+strings.Repeat("0", api.MaxNumber-1)+"7", "up 7")
	wantRefused(t, "up "+strings.Repeat("0", api.MaxNumber)+"7", 3, api.ErrForm)
	wantRefused(t, "up 1 "+strings.Repeat("9", 1000), 5, api.ErrForm)
	wantRefused(t, "up 1 -"+strings.Repeat("9", 1000), 5, api.ErrForm)
}

// P11.1: a line is cut off at each place: what is no whole line is refused at its length, but for a number that num refuses.
func TestCutLines(t *testing.T) {
	s := " \tup:9 \t{ \ta9\t = \t\"\\\\x\\\"\\né\" \t, \tb=\"\",\t } \t1.5 \t-77 \t"
	wantLine(t, s, `up:9{a9="\\x\"\né"} 1.5 -77`)
	value, time := strings.Index(s, "1.5"), strings.Index(s, "-77")
	for i := range len(s) {
		cut := s[:i]
		switch {
		case i == time+1:
			wantRefused(t, cut, time, api.ErrForm)
		case i > time:
			wantLine(t, cut, `up:9{a9="\\x\"\né"} 1.5 `+cut[time:min(i, time+3)])
		case i > value:
			v := cut[value:min(i, value+3)]
			wantLine(t, cut, `up:9{a9="\\x\"\né"} `+strings.TrimSuffix(v, "."))
		default:
			wantRefused(t, cut, i, api.ErrForm)
		}
	}
}

// P11.1: blanks and tabs, few and many, at each place where they may stand.
func TestBlanks(t *testing.T) {
	pieces := []string{"", "up", "{", "a", "=", `"1"`, ",", "b", "=", `""`, ",", "}", "1", "2", ""}
	const value = 12
	for gap := range len(pieces) - 1 {
		for _, blanks := range []string{"", " ", "\t", " \t \t ", strings.Repeat(" ", 5000)} {
			s := ""
			for i, p := range pieces[1:] {
				if i == gap {
					s += blanks
				} else if i == value {
					s += " "
				}
				s += p
			}
			// Between value and time a blank must stand: without it they are one number.
			if gap == value && blanks == "" {
				wantLine(t, s, `up{a="1"} 12`)
				continue
			}
			wantLine(t, s, `up{a="1"} 1 2`)
		}
	}
}

// P11.1: blanks where none may stand part a name or a number, or belong to a value.
func TestBlanksInside(t *testing.T) {
	wantRefused(t, `u p 1`, 2, api.ErrForm)
	wantRefused(t, `up{a b="1"} 1`, 5, api.ErrForm)
	wantRefused(t, `up 1 - 5`, 5, api.ErrForm)
	wantRefused(t, `up - 1`, 3, api.ErrForm)
	wantRefused(t, `up 1 5 0`, 7, api.ErrForm)
	wantLine(t, "up{a=\" 1\t\"} 1", "up{a=\" 1\t\"} 1")
	for _, b := range "\v\f\r\u00a0\u0085\u2003" {
		wantRefused(t, "up"+string(b)+"1", 2, api.ErrForm)
		wantRefused(t, string(b)+"up 1", 0, api.ErrForm)
		wantRefused(t, "up 1"+string(b), 3, api.ErrForm)
		wantRefused(t, "up{"+string(b)+"} 1", 3, api.ErrForm)
	}
}

// P11.1: a label's value that is no UTF-8 is refused at its opening quote, once it is whole.
func TestNoUTF8(t *testing.T) {
	for _, bad := range []string{"\xff", "\xc3", "\xa9", "a\xffb", "é\xe2\x88", "\xed\xa0\x80", "\xc0\x80", "\xf4\x90\x80\x80", "\xff\\n", "\xc3\\n\xa9"} {
		wantRefused(t, `up{a="`+bad+`"} 1`, 5, api.ErrForm)
		wantRefused(t, `up{a="`+bad+`"`, 5, api.ErrForm)
		wantRefused(t, `up{a="`+bad+`" x`, 5, api.ErrForm)
		wantRefused(t, `up{a="1", b = "`+bad+`",b="2"} x`, 14, api.ErrForm)
		wantRefused(t, `up{a="1",a="`+bad+`"} 1`, 11, api.ErrForm)
		wantRefused(t, `up{a="1",__name__="`+bad+`"} 1`, 18, api.ErrForm)
		wantRefused(t, `up{a="`+bad, 6+len(bad), api.ErrForm)
		wantRefused(t, `up{a="`+bad+"\n"+`"} 1`, 6+len(bad), api.ErrForm)
		wantRefused(t, `up{a="`+bad+`\x"} 1`, 7+len(bad), api.ErrForm)
	}
	if x := wantLine(t, "up{a=\"\ufffd\u0000\"} 1", "up{a=\"\ufffd\u0000\"} 1"); !utf8.ValidString(labels.Get(x.Labels, "a")) {
		t.Error(x)
	}
}

// P11.1: a name that stands twice is told at the second, as soon as that label is whole.
func TestTwice(t *testing.T) {
	for s, at := range map[string]int{
		`up{a="1",a="1"} 1`: 9, `up{a="1", a = "2" } 1`: 10, `up{a="1",b="2",a="3"} 1`: 15, `up{b="1",a="2",a="3",b="4"} 1`: 15, `up{a="",a="1"} 1`: 8, `up{a="1",a=""} 1`: 9, `up{a="",a=""} 1`: 8,
		`up{a="1",a="2"`: 9, `up{a="1",a="2"x`: 9, `up{a="1",a="2",,} 1`: 9, `up{a="1",a="2"} x`: 9, `up{a="1",a="2"} 1 2 3`: 9, `up{a="1",a="2",b="\q"} 1`: 9, "up{a=\"1\",a=\"2\"\n": 9, "up{a=\"1\",a=\"2\"} 1\n": 9,
		`up{__name__="x",__name__="y"} 1`: 16, `up{__name__="x",a="1",a="2"} 1`: 22,
	} {
		wantRefused(t, s, at, api.ErrTwice)
	}
	for s, at := range map[string]int{`up{a="1",a`: 10, `up{a="1",a=`: 11, `up{a="1",a="2`: 13, `up{a="1",a="\q"} 1`: 13, `up{a="1",a,`: 10, "up{a=\"1\",a=\"2\n\"} 1": 13} {
		wantRefused(t, s, at, api.ErrForm)
	}
	wantLine(t, `up{a="1",A="2",aa="3"} 1`, `up{A="2",a="1",aa="3"} 1`)
}

// P11.1: the metric has its name; another one is refused when all else is read.
func TestNameLabel(t *testing.T) {
	for _, s := range []string{`up{__name__="x"} 1`, `up{__name__="up"} 1`, `up{__name__=""} 1`, `up{a="1",__name__="9"} 1 2`, " \tup{__name__=\"x\",} 1", "up{__name__=\"x\"} 1\n", "up{__name__=\"x\"} 1\nup 2"} {
		wantRefused(t, s, 0, api.ErrName)
	}
	for s, at := range map[string]int{`up{__name__="x"} `: 17, `up{__name__="x"} y`: 17, `up{__name__="x"} 1 y`: 19, `up{__name__="x",,} 1`: 16, `up{__name__="x"} 1 2 3`: 21} {
		wantRefused(t, s, at, api.ErrForm)
	}
}

// many is count labels with the value.
func many(count int, value string) string {
	var s strings.Builder
	for i := range count {
		s.WriteString("l" + strconv.Itoa(i) + `="` + value + `",`)
	}
	return s.String()
}

// P11.1: names are read as long as they are; what labels.New refuses is told at 0, at the end.
func TestTooLong(t *testing.T) {
	just, over := strings.Repeat("x", api.MaxLabel), strings.Repeat("x", api.MaxLabel+1)
	wantLine(t, just+` 1`, just+` 1`)
	wantLine(t, `up{`+just+`="1"} 1`, `up{`+just+`="1"} 1`)
	wantLine(t, `up{a="`+just+`"} 1`, `up{a="`+just+`"} 1`)
	wantLine(t, `up{a="`+strings.Repeat(`\n`, api.MaxLabel)+`"} 1`, `up{a="`+strings.Repeat(`\n`, api.MaxLabel)+`"} 1`)
	for _, s := range []string{over + ` 1`, over + `{} 1 2`, `up{` + over + `="1"} 1`, `up{` + over + `=""} 1`, `up{a="` + over + `"} 1`, `up{a="` + strings.Repeat("é", 513) + `"} 1`, `up{` + many(65, "1") + over + `=""} 1`} {
		wantRefused(t, s, 0, api.ErrName)
		wantRefused(t, s+" x", len(s)+1, api.ErrForm)
	}
	wantRefused(t, over, len(over), api.ErrForm)
	wantRefused(t, over+"-", len(over), api.ErrForm)
	wantRefused(t, `up{`+over+`="1",`+over+`="2"} 1`, len(over)+8, api.ErrTwice)
	huge := strings.Repeat("a:", 1<<18)
	wantRefused(t, huge+" 1", 0, api.ErrName)
	wantRefused(t, huge+" x", len(huge)+1, api.ErrForm)
}

// P11.1: the metric's name is one of the MaxLabels labels; those with empty values count for none.
func TestTooMany(t *testing.T) {
	x, at, e := expo.ReadLine(`up{` + many(api.MaxLabels-1, "1") + `} 1`)
	if len(x.Labels) != api.MaxLabels || at != 0 || e != api.OK {
		t.Error(len(x.Labels), at, e)
	}
	wantRefused(t, `up{`+many(api.MaxLabels, "1")+`} 1`, 0, api.ErrMany)
	wantRefused(t, `up{`+many(5000, "1")+`} 1`, 0, api.ErrMany)
	wantLine(t, `up{`+many(5000, "")+`} 1`, `up 1`)
	wantRefused(t, `up{`+many(5000, "1")+`__name__="x"} 1`, 0, api.ErrName)
	wantRefused(t, `up{`+many(5000, "1")+`l4999="x"} 1`, len(`up{`+many(5000, "1")), api.ErrTwice)
}

// P11.1: of a text with a line end what is ahead of it is read; a line end is no part of a line, not even the last.
func TestLineEnd(t *testing.T) {
	for s, at := range map[string]int{
		"\n": 0, "up 1\n": 4, "up 1 \n": 5, "up 1 2\n": 6, "up 1\nup 2": 4, "up 1\n\n": 4, "up 1\nx y z": 4, "\nup 1": 0, " \nup 1": 1, "up\n1": 2, "up \n1": 3, "up{\n} 1": 3, "up{a\n=\"1\"} 1": 4, "up{a=\"1\n\"} 1": 7, "up{a=\"\\\n\"} 1": 7, "up{a=\"1\"\n} 1": 8, "up{a=\"1\",\n} 1": 9, "up{a=\"1\"}\n1": 9, "up 1\n2": 4, "up 1 \n2": 5,
		"up x\n": 3, "up 1 x\n": 5, "up 1 2 3\n": 7, "1up\n": 0, "up{a=1}\n": 5, "up 1e\n5": 3, "up{a=\"\\q\"}\n": 7, "up{a=\"\xff\"\n": 5, "up 1 9007199254740993\n": 5, "up 1\r\n": 3,
	} {
		wantRefused(t, s, at, api.ErrForm)
	}
	over := strings.Repeat("x", api.MaxLabel+1)
	wantRefused(t, over+" 1\n", 0, api.ErrName)
	wantRefused(t, over+" \n1", len(over)+1, api.ErrForm)
}
