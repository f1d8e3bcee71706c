package regex_test

import (
	"math/rand"
	"regexp"
	"slices"
	"strconv"
	"strings"
	"testing"
	"unicode/utf8"

	"vigil/regex"
)

func TestExpand(t *testing.T) {
	groups := []int{0, 4, 0, 1, 1, 4, -1, -1}
	for template, want := range map[string]string{
		"$1-${2}$$$x$9": "a-bcd$$x", "": "", "x": "x", "$": "$", "$$": "$", "$$$": "$$", "$$$$": "$$", "$1": "a", "$2": "bcd", "$3": "", "$4": "", "$0": "$0", "${0}": "abcd", "${1}": "a", "${3}": "", "${4}": "", "${999}": "",
		"$12": "a2", "${12}": "", "${12": "${12", "${}": "${}", "${00}": "${00}", "${01}": "${01}", "${1234}": "${1234}", "${1x}": "${1x}", "${x}": "${x}", "${ 1}": "${ 1}", "${-1}": "${-1}", "${": "${", "${1": "${1", "${12}}": "}", "$${1}": "${1}", "$$1": "$1", "$$$1": "$a", "${$1}": "${a}", "${1${1}": "${1a", "$é$1é": "$éaé", "\xff$1\xff": "\xffa\xff", "$\xff": "$\xff", "a$b": "a$b", "$1$1$2": "aabcd", "${2}1": "bcd1", "$-1": "$-1", "\\$1": "\\a",
	} {
		if got := regex.Expand(template, "abcd", groups); got != want {
			t.Errorf("Expand(%q) is %q, want %q", template, got, want)
		}
	}
	if !slices.Equal(groups, []int{0, 4, 0, 1, 1, 4, -1, -1}) {
		t.Errorf("the groups are changed: %v", groups)
	}
	var many []int
	for i := range 128 {
		many = append(many, i, i+1)
	}
	text := strings.Repeat("0123456789", 13)
	for i := range 128 {
		if got := regex.Expand("${"+strconv.Itoa(i)+"}", text, many); got != text[i:i+1] {
			t.Errorf("group %d is %q", i, got)
		}
	}
}

// Groups that no program told are no reason to panic.
func TestExpandWrongGroups(t *testing.T) {
	const most, least = int(^uint(0) >> 1), -int(^uint(0)>>1) - 1
	for _, groups := range [][]int{nil, {}, {0}, {0, 2}, {0, 2, 1}, {0, 2, 1, 9}, {0, 2, 2, 1}, {0, 2, -1, 1}, {0, 2, 1, -1}, {0, 2, most, most}, {0, 2, least, most}, {0, 2, most, least}, {0, 2, 3, 3}} {
		if got := regex.Expand("<$1>", "ab", groups); got != "<>" {
			t.Errorf("Expand with %v is %q", groups, got)
		}
	}
}

// All short templates are expanded as the library's own expressions find what stands for groups.
func TestExpandForms(t *testing.T) {
	form := regexp.MustCompile(`\$\$|\$[1-9]|\$\{(0|[1-9][0-9]?[0-9]?)\}`)
	groups := []int{0, 5, 0, 1, 1, 3, -1, -1, 3, 3}
	each(6, []string{"$", "{", "}", "0", "1", "3", "x"}, func(template string) {
		want := form.ReplaceAllStringFunc(template, func(s string) string {
			if s == "$$" {
				return "$"
			}
			n, _ := strconv.Atoi(strings.Trim(s, "${}"))
			if 2*n >= len(groups) || groups[2*n] < 0 {
				return ""
			}
			return "hello"[groups[2*n]:groups[2*n+1]]
		})
		if got := regex.Expand(template, "hello", groups); got != want {
			t.Fatalf("Expand(%q) is %q, want %q", template, got, want)
		}
	})
}

func TestQuote(t *testing.T) {
	for s, want := range map[string]string{
		"": "", "a.b": `a\.b`, "\\.+*?()|[]{}^$": `\\\.\+\*\?\(\)\|\[\]\{\}\^\$`, "x\n\t\r": `x\n\t\r`, "\f\v\x00\x7f": "\f\v\x00\x7f", "é-/\"' ,:_~": "é-/\"' ,:_~", "日本.": `日本\.`, "\ufffd": "\ufffd",
	} {
		if got := regex.Quote(s); got != want {
			t.Errorf("Quote(%q) is %q, want %q", s, got, want)
		}
	}
	// No text that is not UTF-8 makes it panic.
	for _, s := range []string{"\xff", "\xc3", "a\xe2\x82."} {
		regex.Quote(s)
	}
}

// A quoted text means that text, and no other one.
func TestQuoteMeans(t *testing.T) {
	var texts []string
	for c := range 256 {
		texts = append(texts, string(rune(c)))
	}
	for i, s := range texts {
		if got := slices.Collect(made(t, regex.Quote(s)).All(texts)); !slices.Equal(got, []int{i}) {
			t.Errorf("Quote(%q) means %v", s, got)
		}
	}
	r := rand.New(rand.NewSource(5))
	const chars = `\.+*?()|[]{}^$-a1é` + "\n\t\r "
	for range 2000 {
		var s []rune
		for range r.Intn(12) {
			s = append(s, []rune(chars)[r.Intn(utf8.RuneCountInString(chars))])
		}
		text := string(s)
		p := made(t, regex.Quote(text))
		if !p.Match(text) || p.Match(text+"a") || p.Match("a"+text) || p.Size() != len(s)+1 {
			t.Fatalf("Quote(%q) is %q", text, regex.Quote(text))
		}
	}
}
