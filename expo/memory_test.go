package expo_test

import (
	"fmt"
	"slices"
	"testing"

	"vigil/api"
	"vigil/expo"
)

// roomy is a list with spare room that holds something, and the whole of it.
func roomy[T any](spare T, l ...T) (part, whole []T) {
	whole = append(slices.Clone(l), spare, spare)
	return whole[:len(l)], whole
}

func spoilLabels(l []api.Label) {
	for i := range l[:cap(l)] {
		l[:cap(l)][i] = api.Label{Name: "spoilt", Value: "spoilt"}
	}
}

func spoilBytes(b []byte) {
	for i := range b[:cap(b)] {
		b[:cap(b)][i] = 'x'
	}
}

const someBody = "# HELP up a\\nb\n# TYPE up gauge\nup{a=\"1\",b=\"\\\\\"} 1 2\n\nup{c=\"3\"} 4\ndown 5\n"

// R2: what is handed in is not changed, its spare room included.
func TestArgumentsAreLeft(t *testing.T) {
	for _, s := range []string{someBody, "up 1", "up x\n", "# TYPE up foo", "\n", ""} {
		body, whole := roomy('\n', []byte(s)...)
		was := string(whole)
		expo.Read(body, 2)
		expo.Read(body, plenty)
		for range expo.Lines(body) {
		}
		if string(whole) != was {
			t.Errorf("%q became %q", was, whole)
		}
	}
	spare := api.Label{Name: "spare", Value: "spare"}
	var l []api.Line
	var sets [][]api.Label
	for _, x := range [][]api.Label{set("A", "1", "__name__", "up"), set("__name__", "up"), set("b", "1", "a", "2"), nil} {
		part, whole := roomy(spare, x...)
		l, sets = append(l, api.Line{Labels: part, V: 1, T: 2, HasT: true}), append(sets, whole)
	}
	part, whole := roomy(api.Line{Labels: set("__name__", "spare")}, l...)
	was := fmt.Sprint(whole, sets)
	expo.Text(part)
	if now := fmt.Sprint(whole, sets); now != was {
		t.Errorf("%s became %s", was, now)
	}
}

// R2: nothing of a body is kept: not by what Read answers, and not by an iterator that goes on behind the call.
func TestBodyIsNotKept(t *testing.T) {
	body := []byte(someBody)
	l, f, _, e := expo.Read(body, plenty)
	lines := expo.Lines(body)
	want := told(someBody)
	var got []string
	for n, s := range lines {
		got = append(got, fmt.Sprint(n, ":", s))
		spoilBytes(body)
	}
	if !slices.Equal(got, want) {
		t.Errorf("%q", got)
	}
	if e != api.OK || speltLines(l) != `up{a="1",b="\\"} 1 2; up{c="3"} 4; down 5` || !slices.Equal(f, []api.Family{{Name: "up", Kind: "gauge", Help: "a\nb"}}) {
		t.Error(l, f, e)
	}
}

// R2: each answer is new memory, and no two lists of one answer share any.
func TestAnswersAreNew(t *testing.T) {
	l, f, _, _ := expo.Read([]byte(someBody), plenty)
	for i := range l {
		rest := speltLines(l[i+1:])
		spoilLabels(l[i].Labels)
		if speltLines(l[i+1:]) != rest {
			t.Error("a line shares memory with a later one")
		}
	}
	f[0] = api.Family{}
	a, _, _ := expo.ReadLine(`up{a="1"} 1`)
	spoilLabels(a.Labels)
	wantLine(t, `up{a="1"} 1`, `up{a="1"} 1`)
	in := []api.Line{{Labels: set("__name__", "up", "a", "1"), V: 1}}
	spoilBytes(expo.Text(in))
	if got := string(expo.Text(in)); got != "up{a=\"1\"} 1\n" {
		t.Error(got)
	}
	wantBody(t, someBody, `up{a="1",b="\\"} 1 2; up{c="3"} 4; down 5`, api.Family{Name: "up", Kind: "gauge", Help: "a\nb"})
}
