package regex_test

import (
	"math/rand"
	"regexp"
	"slices"
	"strconv"
	"strings"
	"testing"
	"unicode/utf8"

	"vigil/regex"
)

func TestGroups(t *testing.T) {
	for _, x := range []struct {
		s, text string
		want    []int
	}{
		{"a|ab", "ab", []int{0, 2}},
		{"(a|ab)(c|bcd)(d*)", "abcd", []int{0, 4, 0, 1, 1, 4, 4, 4}},
		{"(a*)(a*)", "aaa", []int{0, 3, 0, 3, 3, 3}}, {"(a*?)(a*)", "aaa", []int{0, 3, 0, 0, 0, 3}},
		{"(a|b)*", "ab", []int{0, 2, 1, 2}}, {"(a*)*", "b", nil},
		{"(a*)+", "", []int{0, 0, 0, 0}}, {"(a*)*", "", []int{0, 0, -1, -1}}, {"(x)?", "", []int{0, 0, -1, -1}},
		{"", "", []int{0, 0}}, {"", "a", nil}, {".*", "", []int{0, 0}}, {"^a$", "a", []int{0, 1}}, {"a^", "a", nil}, {"$a", "a", nil}, {"a$$", "a", []int{0, 1}}, {"^^a", "a", []int{0, 1}},
		// A group is told as it was met last, even if that was a round ago.
		{"(?:(a)|b)*", "ab", []int{0, 2, 0, 1}}, {"(?:(a)|(b))*", "aba", []int{0, 3, 2, 3, 1, 2}}, {"((a)|.)*", "xa", []int{0, 2, 1, 2, 1, 2}},
		{"(a){3}", "aaa", []int{0, 3, 2, 3}}, {"(a){0}b", "b", []int{0, 1, -1, -1}}, {"(a){0,2}", "", []int{0, 0, -1, -1}},
		// Places are bytes.
		{"(é)(.)(.)", "éxü", []int{0, 5, 0, 2, 2, 3, 3, 5}}, {"(.)(.)", "\xffé", []int{0, 3, 0, 1, 1, 3}}, {"(.)(.)(.)", "\xe2\x82a", []int{0, 3, 0, 1, 1, 2, 2, 3}},
		// The first alternative rather, the more rather, the fewer rather.
		{"(a|ab)(b?)", "ab", []int{0, 2, 0, 1, 1, 2}}, {"(ab|a)(b?)", "ab", []int{0, 2, 0, 2, 2, 2}}, {"(|a)(a?)", "a", []int{0, 1, 0, 0, 0, 1}}, {"(a|)(a?)", "a", []int{0, 1, 0, 1, 1, 1}}, {"(|a|b)(.?)", "b", []int{0, 1, 0, 0, 0, 1}},
		{"(a+)(a*)", "aaa", []int{0, 3, 0, 3, 3, 3}}, {"(a+?)(a*)", "aaa", []int{0, 3, 0, 1, 1, 3}}, {"(a?)(a*)", "aa", []int{0, 2, 0, 1, 1, 2}}, {"(a??)(a*)", "aa", []int{0, 2, 0, 0, 0, 2}},
		{"(a{1,2})(a*)", "aaa", []int{0, 3, 0, 2, 2, 3}}, {"(a{1,2}?)(a*)", "aaa", []int{0, 3, 0, 1, 1, 3}}, {"(a{1,})(a*)", "aaa", []int{0, 3, 0, 3, 3, 3}}, {"(a{1,}?)(a*)", "aaa", []int{0, 3, 0, 1, 1, 3}}, {"(a{2}?)(a*)", "aaa", []int{0, 3, 0, 2, 2, 3}},
		{"((a*)*)*", "", []int{0, 0, -1, -1, -1, -1}}, {"((a*)+)+", "", []int{0, 0, 0, 0, 0, 0}}, {"(|a)*", "a", []int{0, 1, 0, 1}}, {"(|a)+", "a", []int{0, 1, 0, 1}}, {"(a|)+", "a", []int{0, 1, 0, 1}}, {"(a?){3}", "a", []int{0, 1, 1, 1}},
	} {
		p := made(t, x.s)
		got, ok := p.Groups(x.text)
		if !slices.Equal(got, x.want) || ok != (x.want != nil) || p.Match(x.text) != ok || !ok && got != nil {
			t.Errorf("Groups of %q on %q are %v %v, want %v", x.s, x.text, got, ok, x.want)
		}
	}
}

func TestMatch(t *testing.T) {
	for s, texts := range map[string][2][]string{
		"a{2,3}": {{"aa", "aaa"}, {"", "a", "aaaa", "aab"}}, "a{2}": {{"aa"}, {"a", "aaa"}}, "a{2,}": {{"aa", "aaaaa"}, {"", "a"}}, "a{0}": {{""}, {"a"}}, "a{0,1}": {{"", "a"}, {"aa"}},
		"": {{""}, {"a", "\n", "\x00"}}, ".": {{"a", "\n", "é", "\xff", "\x00", "\U0010ffff"}, {"", "ab", "\xe2\x82"}}, ".*": {{"", "a\nb", "\xff\xfe"}, nil},
		"^a$": {{"a"}, {"ab", "ba", "", "a\n"}}, "a^": {nil, {"a", "", "a^"}}, "(?:^a|b$)+": {{"a", "b", "ab"}, {"aa", "bb", "ba"}}, "(?:^|x)a": {{"a", "xa"}, {"xxa"}}, "a(?:$|x)": {{"a", "ax"}, {"axx"}},
		"a": {{"a"}, {"", "A", "aa", "ba", "ab", " a", "a\n"}}, "é": {{"é"}, {"e", "\xc3", "\xa9", "\xc3\xa9\xa9"}}, "a,b-c": {{"a,b-c"}, {"a,b.c"}},
		"\ufffd": {{"\ufffd", "\xff", "\x80"}, {"a", "\xff\xff"}}, "\xff": {{"\ufffd", "\xfe", "\xc3"}, {"é"}}, "\xe2\x82": {{"\xff\xff", "\xe2\x82"}, {"\xe2\x82\xac"}}, "\xed\xa0\x80": {{"\xed\xa0\x80", "\ufffd\ufffd\ufffd"}, {"\ufffd"}},
		"[^a-c]x": {{"dx", "\nx", "éx", "\xffx"}, {"ax", "bx", "cx", "x"}}, "[]a]": {{"]", "a"}, {"b", "[", "]a"}}, "[a-]": {{"-", "a"}, {"b"}}, "[-a]": {{"-", "a"}, {"b"}}, "[^]a]": {{"b", "[", "-"}, {"]", "a", ""}}, "[^-a]": {{"b", "^"}, {"-", "a"}},
		"[--a]": {{"-", ".", "A", "a"}, {",", "b"}}, "[+--]": {{"+", ",", "-"}, {"*", "."}}, "[---]": {{"-"}, {",", "."}}, "[]-a]": {{"]", "^", "_", "`", "a"}, {"\\", "b", "-"}}, "[a^]": {{"a", "^"}, {"b"}}, "[^^]": {{"a"}, {"^"}}, "[.*$(|]": {{".", "*", "$", "(", "|"}, {"a", ")"}},
		"[a-cx-z5]": {{"a", "b", "c", "x", "y", "z", "5"}, {"d", "w", "4", "6", "-"}}, "[c-ea-db]": {{"a", "b", "c", "d", "e"}, {"f", "`"}}, "[é-ü]": {{"é", "ê", "ü"}, {"è", "ý", "e"}}, "[a-\xff]": {{"a", "é", "\ufffd", "\xfe"}, {"A", "\U00010000"}}, "[a-a]": {{"a"}, {"b", "-"}}, "[a-zc-d]": {{"a", "c", "d", "e", "z"}, {"A"}}, "[^a-zc-d]": {{"A", "{"}, {"a", "d", "e", "z"}}, "[^\x00-\U0010fffe]": {{"\U0010ffff"}, {"\x00", "\U0010fffe"}}, "[^b-\U0010ffff]": {{"a", "\x00"}, {"b", "\U0010ffff"}},
		"[\\d-]+": {{"1-2"}, {"a"}}, "[a\\-z]": {{"-", "a", "z"}, {"b"}}, "[\\]-a]": {{"]", "_", "a"}, {"b", "-", "\\"}}, "[\\n-\\r]": {{"\n", "\v", "\r"}, {"\t", "n"}}, "[^\\W]": {{"a", "_"}, {"-", "é"}}, "[^\\d\\D]": {nil, {"", "a", "1"}}, "[\\d\\D]": {{"a", "1", "\xff"}, {""}}, "[\\s\\d]": {{" ", "5"}, {"a"}}, "[^\\s]": {{"a"}, {" ", "\f"}},
		"ab|cd|": {{"ab", "cd", ""}, {"abcd", "a", "acd"}}, "a(?:b|c)d": {{"abd", "acd"}, {"ad", "abcd"}}, "(?:ab)*?": {{"", "ab", "abab"}, {"aba"}}, "(?:a|ab)(?:c|bcd)": {{"ac", "abc", "abcd", "abbcd"}, {"abcdd"}},
		"(?:)*": {{""}, {"a"}}, "(?:)+": {{""}, {"a"}}, "()*a": {{"a"}, {""}}, "(?:a*)*b": {{"b", "aab"}, {"", "aa"}}, "(?:a?){5}a{5}": {{"aaaaa", "aaaaaaaaaa"}, {"aaaa", "aaaaaaaaaaa"}},
	} {
		p := made(t, s)
		for i, l := range texts {
			for _, text := range l {
				if p.Match(text) != (i == 0) {
					t.Errorf("Match of %q on %q is %v", s, text, i != 0)
				}
			}
		}
	}
}

// Each byte stands for itself, or is refused, as the chapter's table says; so with a backslash, and within a class.
func TestCharacters(t *testing.T) {
	const specials = "\\.+*?()|[]{}^$"
	letters := map[byte]string{'n': "\n", 't': "\t", 'r': "\r"}
	for c := range 128 {
		b := string(rune(c))
		if p, _, _ := regex.Compile(b); !strings.Contains(specials, b) && (!p.Match(b) || p.Match(string(rune(c+1)))) {
			t.Errorf("%q means something else", b)
		}
		if b != "]" && b != "\\" && b != "^" {
			if p := made(t, "["+b+"]"); !p.Match(b) || p.Match(string(rune(c+1))) {
				t.Errorf("[%q] means something else", b)
			}
		}
		want, ok := letters[byte(c)]
		if strings.Contains(specials+"-/\"' ", b) {
			want, ok = b, true
		}
		if !ok {
			continue
		}
		for _, s := range []string{"\\" + b, "[\\" + b + "]", "[\\" + b + "-\\" + b + "]"} {
			p := made(t, s)
			for d := range 128 {
				if p.Match(string(rune(d))) != (string(rune(d)) == want) {
					t.Errorf("%q on %q is %v", s, rune(d), string(rune(d)) != want)
				}
			}
		}
	}
}

func TestClassLetters(t *testing.T) {
	for letter, chars := range map[string]string{"d": "0123456789", "w": "0123456789abcdefghijklmnopqrstuvwxyzABCDEFGHIJKLMNOPQRSTUVWXYZ_", "s": " \t\n\r\f"} {
		is, not := made(t, "\\"+letter), made(t, "\\"+strings.ToUpper(letter))
		isIn, notIn, notNot := made(t, "[\\"+letter+"]"), made(t, "[^\\"+letter+"]"), made(t, "[^\\"+strings.ToUpper(letter)+"]")
		for c := rune(0); c < 0x3000; c++ {
			text, want := string(c), strings.ContainsRune(chars, c)
			if is.Match(text) != want || not.Match(text) == want || isIn.Match(text) != want || notIn.Match(text) == want || notNot.Match(text) != want {
				t.Fatalf("\\%s on %q is not %v", letter, c, want)
			}
		}
		if is.Match("\xff") || !not.Match("\xff") || !not.Match("\U0010ffff") {
			t.Errorf("\\%s takes a byte of no character", letter)
		}
	}
}

// step is a step of a program as the chapter's table tells it.
type step struct {
	kind          byte // a character, or one of . ^ $ ( ) and f: a fork, j: a jump, y: the end
	group         int
	first, second int
}

// maker makes expressions by chance, their texts and their programs.
type maker struct {
	r      *rand.Rand
	groups int
}

// move is steps as they stand n places further on.
func move(steps []step, n int) []step {
	out := slices.Clone(steps)
	for i := range out {
		out[i].first += n
		out[i].second += n
	}
	return out
}

// join puts rows of steps, each of which begins at 0, one behind the other.
func join(rows ...[]step) []step {
	var out []step
	for _, l := range rows {
		out = append(out, move(l, len(out))...)
	}
	return out
}

// fork is a fork at 0.
func fork(first, second int, lazy bool) []step {
	if lazy {
		first, second = second, first
	}
	return []step{{kind: 'f', first: first, second: second}}
}

func (m *maker) either(depth int) (string, []step) {
	text, steps := m.row(depth)
	if m.r.Intn(3) > 0 {
		return text, steps
	}
	text2, steps2 := m.either(depth)
	n, n2 := len(steps), len(steps2)
	return text + "|" + text2, join(fork(1, n+2, false), steps, []step{{kind: 'j', first: 1 + n2}}, steps2)
}

func (m *maker) row(depth int) (text string, steps []step) {
	for range m.r.Intn(3) {
		if m.r.Intn(12) == 0 {
			c := "^$"[m.r.Intn(2)]
			text, steps = text+string(c), join(steps, []step{{kind: c}})
			continue
		}
		text1, steps1 := m.repeat(depth)
		text, steps = text+text1, join(steps, steps1)
	}
	return text, steps
}

func (m *maker) thing(depth int) (string, []step) {
	kind := m.r.Intn(4)
	if depth == 0 || kind < 2 {
		c := "ab."[m.r.Intn(3)]
		return string(c), []step{{kind: c}}
	}
	if kind == 2 {
		text, steps := m.either(depth - 1)
		return "(?:" + text + ")", steps
	}
	m.groups++
	group := m.groups
	text, steps := m.either(depth - 1)
	return "(" + text + ")", join([]step{{kind: '(', group: group}}, steps, []step{{kind: ')', group: group}})
}

func (m *maker) repeat(depth int) (string, []step) {
	text, e := m.thing(depth)
	lazy, mark := m.r.Intn(3) == 0, ""
	if lazy {
		mark = "?"
	}
	n := len(e)
	star := join(fork(1, n+2, lazy), e, []step{{kind: 'j', first: -n - 1}})
	least := m.r.Intn(3)
	row := join(slices.Repeat([][]step{e}, least)...)
	switch m.r.Intn(9) {
	case 0:
		return text + "*" + mark, star
	case 1:
		return text + "+" + mark, join(e, fork(-n, 1, lazy))
	case 2:
		return text + "?" + mark, join(fork(1, n+1, lazy), e)
	case 3:
		return text + "{" + strconv.Itoa(least) + "}" + mark, row
	case 4:
		return text + "{" + strconv.Itoa(least) + ",}" + mark, join(row, star)
	case 5:
		more := m.r.Intn(3)
		for i := range more {
			row = join(row, fork(1, (more-i)*(n+1), lazy), e)
		}
		return text + "{" + strconv.Itoa(least) + "," + strconv.Itoa(least+more) + "}" + mark, row
	}
	return text, e
}

// trier tries the ways of a program one behind the other, as the chapter says it.
type trier struct {
	steps []step
	text  string
	tried map[[2]int]bool
	notes []int
}

func (t *trier) try(i, at int) bool {
	if t.tried[[2]int{i, at}] {
		return false
	}
	t.tried[[2]int{i, at}] = true
	s := t.steps[i]
	switch s.kind {
	case 'y':
		return at == len(t.text)
	case '^':
		return at == 0 && t.try(i+1, at)
	case '$':
		return at == len(t.text) && t.try(i+1, at)
	case 'j':
		return t.try(s.first, at)
	case 'f':
		return t.try(s.first, at) || t.try(s.second, at)
	case '(', ')':
		slot := 2 * s.group
		if s.kind == ')' {
			slot++
		}
		was := t.notes[slot]
		t.notes[slot] = at
		if t.try(i+1, at) {
			return true
		}
		t.notes[slot] = was
		return false
	}
	if at == len(t.text) || s.kind != '.' && s.kind != t.text[at] {
		return false
	}
	_, width := utf8.DecodeRuneInString(t.text[at:])
	return t.try(i+1, at+width)
}

// What a program tells is what trying its ways tells, of many expressions and all short texts; the library's own expressions mean the same texts.
func TestGroupsByTrying(t *testing.T) {
	r := rand.New(rand.NewSource(4))
	matched := 0
	for range 4000 {
		m := &maker{r: r}
		s, e := m.either(3)
		p, _, _ := regex.Compile(s)
		steps := join(e, []step{{kind: 'y'}})
		if len(s) > 256 || len(steps) > 2000 {
			if p != nil {
				t.Fatalf("Compile(%q) is not refused", s)
			}
			continue
		}
		if p == nil || p.Size() != len(steps) || p.Count() != m.groups {
			t.Fatalf("Compile(%q) is wrong, want %d steps and %d groups", s, len(steps), m.groups)
		}
		library := regexp.MustCompile(`\A(?s:` + s + `)\z`)
		each(4, []string{"a", "b", "é"}, func(text string) {
			try := &trier{steps, text, map[[2]int]bool{}, slices.Repeat([]int{-1}, 2*m.groups+2)}
			want := try.try(0, 0)
			try.notes[0], try.notes[1] = 0, len(text)
			got, ok := p.Groups(text)
			if ok != want || want && !slices.Equal(got, try.notes) || !want && got != nil {
				t.Fatalf("Groups of %q on %q are %v %v, want %v %v", s, text, got, ok, try.notes, want)
			}
			if p.Match(text) != want || library.MatchString(text) != want {
				t.Fatalf("Match of %q on %q is %v, want %v", s, text, p.Match(text), want)
			}
			if ok {
				matched++
			}
		})
	}
	if matched < 10000 {
		t.Errorf("only %d texts matched", matched)
	}
}

// Texts that are tried in turn without end, or nearly, if steps are tried again at a place.
func TestWork(t *testing.T) {
	long := strings.Repeat("a", 30000)
	for _, s := range []string{"(a*)*(a*)*(a*)*b", "(a|a)*b", "((a*)*)*b", "(?:(a?){30}a{30})*b", "(?:(?:a+)+)+b", "(a|aa|aaa)+b", "(.*)(.*)(.*)(.*)(.*)b", "(?:a{0,50}){19}b"} {
		p := made(t, s)
		if p.Match(long) {
			t.Errorf("Match of %q on a long text", s)
		}
		if _, ok := p.Groups(long); ok {
			t.Errorf("Groups of %q on a long text", s)
		}
	}
	if p := made(t, "(a|b)*c"); !p.Match(long + long + "c") {
		t.Error("a long text does not match")
	}
	groups, ok := made(t, "((a)|(b))*(c?)").Groups(long)
	if want := []int{0, 30000, 29999, 30000, 29999, 30000, -1, -1, 30000, 30000}; !ok || !slices.Equal(groups, want) {
		t.Errorf("Groups on a long text are %v", groups)
	}
	// A text that can't match any more is not gone through.
	huge := "b" + strings.Repeat("a", 1<<20)
	p := made(t, "(?:a{100}){19}")
	for range 1000 {
		if p.Match(huge) {
			t.Fatal("a huge text matches")
		}
	}
}

func TestAll(t *testing.T) {
	p := made(t, "a+")
	texts := []string{"a", "b", "aa", "", "aaa", "ab"}
	all := p.All(texts)
	texts[0], texts[1] = "b", "a" // what was handed in is not kept
	for stop := range 5 {
		var got []int
		for i := range all {
			if got = append(got, i); len(got) == stop {
				break
			}
			if !p.Match("aaaa") || p.Match("") {
				t.Fatal("calls within the loop")
			}
		}
		want := []int{0, 2, 4}
		if stop > 0 && stop < 3 {
			want = want[:stop]
		}
		if !slices.Equal(got, want) {
			t.Errorf("All, stopped at %d, tells %v", stop, got)
		}
	}
	for _, none := range [][]string{nil, {}, {"b", ""}} {
		for i := range p.All(none) {
			t.Errorf("All(%q) tells %d", none, i)
		}
	}
	if got := slices.Collect(made(t, "").All([]string{"", "x", ""})); !slices.Equal(got, []int{0, 2}) {
		t.Errorf("All of the empty expression tells %v", got)
	}
}

// Programs that were made apart know nothing of each other, and what one answers is new each time.
func TestNewMemory(t *testing.T) {
	p, q := made(t, "(a)(b)"), made(t, "(a)(b)")
	first, _ := p.Groups("ab")
	full := first[:cap(first)]
	for i := range full {
		full[i] = 7
	}
	for _, x := range []*regex.Prog{p, q} {
		if got, ok := x.Groups("ab"); !ok || !slices.Equal(got, []int{0, 2, 0, 1, 1, 2}) {
			t.Errorf("Groups are %v", got)
		}
	}
}
