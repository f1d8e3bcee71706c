package expand_test

import (
	"math/rand"
	"slices"
	"strings"
	"testing"

	"vigil/api"
	"vigil/expand"
	"vigil/regex"
)

// P12.1, P14.8: a short text is what regex.Expand says, and of a long one it is told that it is too long.
func TestLabel(t *testing.T) {
	prog, _, e := regex.Compile("(a*)(b*)(c)?")
	if e != api.OK {
		t.Fatal(e)
	}
	r := rand.New(rand.NewSource(12))
	pieces := []string{"$", "$$", "$1", "$2", "$3", "$4", "${0}", "${1}", "${12}", "${01}", "${", "}", "{1}", "x", "ä", "\xff", "0", ""}
	for range 30000 {
		text := strings.Repeat("a", r.Intn(400)) + strings.Repeat("b", r.Intn(4))
		groups, _ := prog.Groups(text)
		template := ""
		for range r.Intn(8) {
			template += pieces[r.Intn(len(pieces))]
		}
		want := regex.Expand(template, text, groups)
		got := expand.Label(template, text, groups)
		if len(want) <= api.MaxLabel && got != want || len(want) > api.MaxLabel && len(got) <= api.MaxLabel {
			t.Fatalf("%q of %d bytes: %.100q; want %.100q", template, len(text), got, want)
		}
	}
}

// The length at which it gives up is just that of a label.
func TestLabelEnds(t *testing.T) {
	for n := api.MaxLabel - 3; n <= api.MaxLabel+3; n++ {
		for _, text := range []string{"x", "xyz", strings.Repeat("x", n)} {
			groups := []int{0, len(text)}
			template := strings.Repeat("z", n%len(text)) + strings.Repeat("${0}", n/len(text))
			if got := expand.Label(template, text, groups); len(got) != n && n <= api.MaxLabel || len(got) <= api.MaxLabel && n > api.MaxLabel {
				t.Error(len(got), "bytes of", n)
			}
		}
	}
}

// R1: what would come to more than any memory holds ends, and what is handed in is not changed.
func TestLabelGreat(t *testing.T) {
	text := strings.Repeat("x", 1<<20)
	groups := []int{0, len(text)}
	for _, template := range []string{strings.Repeat("${0}", 1<<20), strings.Repeat("$", 1<<21) + "{0}", strings.Repeat("$$${0}", 1<<20), strings.Repeat("z", 1<<24)} {
		if got := expand.Label(template, text, groups); len(got) <= api.MaxLabel {
			t.Error(len(got))
		}
	}
	if !slices.Equal(groups, []int{0, 1 << 20}) {
		t.Error(groups)
	}
}

// R1: groups of another text.
func TestLabelWrongGroups(t *testing.T) {
	for _, groups := range [][]int{nil, {0}, {-1, -1}, {5, 2}, {0, 100}, {-7, 3, 1 << 62, -1 << 62}} {
		expand.Label("$1${0}$2", "abc", groups)
	}
}
