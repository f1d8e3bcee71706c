package parse_test

import (
	"fmt"
	"slices"
	"testing"

	"vigil/api"
	"vigil/parse"
)

// told is what Walk tells.
func told(e api.Expr) []string {
	var out []string
	for x := range parse.Walk(e) {
		out = append(out, spelt(x))
	}
	return out
}

// walked is an expression and all that is within it, each ahead of its Kids.
func walked(e api.Expr) []string {
	out := []string{spelt(e)}
	for _, kid := range e.Kids {
		out = append(out, walked(kid)...)
	}
	return out
}

// someTrees are expressions to be walked, wrong ones among them.
func someTrees(t *testing.T) []api.Expr {
	out := append(oneOfEach(t), read(t, `sum by (x) (a + rate(b{c="d"}[1m])) - on (x) group_left (y) topk(scalar(c), -max_over_time((d)[5m:1m]))`))
	odd := with(metric("a"), func(e *api.Expr) {
		e.Kids = []api.Expr{metric("b"), {}, {Kind: 99, Kids: []api.Expr{metric("c")}}}
	})
	return append(out, odd, api.Expr{}, api.Expr{Kids: []api.Expr{{}, {}}}, call("nosuch", odd, odd))
}

// P13.4: Walk tells an expression, then its Kids, each with all that is within it, in order.
func TestWalk(t *testing.T) {
	for _, e := range someTrees(t) {
		want := walked(e)
		if got := told(e); !slices.Equal(got, want) {
			t.Errorf("%s: %v", spelt(e), got)
		}
		// It may be ranged over many times, and stopped at any element.
		all := parse.Walk(e)
		for most := range len(want) + 1 {
			var got []string
			for x := range all {
				if got = append(got, spelt(x)); len(got) >= most {
					break
				}
			}
			if !slices.Equal(got, want[:max(most, 1)]) {
				t.Errorf("%s, stopped at %d: %v", spelt(e), most, got)
			}
		}
		// One range within another.
		for range all {
			if got := len(slices.Collect(all)); got != len(want) {
				t.Error(got, len(want))
			}
		}
	}
	var kinds []int
	for x := range parse.Walk(read(t, "sum(a + rate(b[1m]))")) {
		kinds = append(kinds, x.Kind)
	}
	if fmt.Sprint(kinds) != fmt.Sprint([]int{api.EAggregate, api.EBinary, api.ESelector, api.ECall, api.ESelector}) {
		t.Error(kinds)
	}
}

// P13.4: Selectors are the ESelectors that Walk tells.
func TestSelectorsWithin(t *testing.T) {
	for _, e := range someTrees(t) {
		var got, want []string
		for _, x := range parse.Selectors(e) {
			got = append(got, spelt(x))
		}
		for x := range parse.Walk(e) {
			if x.Kind == api.ESelector {
				want = append(want, spelt(x))
			}
		}
		if !slices.Equal(got, want) {
			t.Errorf("%s: %v", spelt(e), got)
		}
	}
	var names []string
	for _, x := range parse.Selectors(read(t, `sum(a) + rate(b[1m]) * on (x) max_over_time((c offset 5m)[1h:]) or -label_replace(a, "b", "", "c", "")`)) {
		names = append(names, parse.Text(x))
	}
	if fmt.Sprint(names) != "[a b[1m] c offset 5m a]" {
		t.Error(names)
	}
	if l := parse.Selectors(read(t, "1 + time()")); len(l) > 0 {
		t.Error(l)
	}
}

// P13.2: Depth is 1, and the greatest of the Kids'.
func TestDepth(t *testing.T) {
	for s, want := range map[string]int{"1": 1, `"x"`: 1, "a": 1, "((a))": 1, "+a": 1, "-a": 2, "a[5m:]": 2, "a + b": 2, "a + b * c": 3, "a + b + c + d": 4, "sum(a + (b))": 3, "time()": 1, "abs(-a)": 3, "clamp(a, 1, -(1 + 1))": 4, "clamp(-(-a), 1, 1)": 4} {
		if got := parse.Depth(read(t, s)); got != want {
			t.Error(s, got)
		}
	}
	if got := parse.Depth(api.Expr{}); got != 1 {
		t.Error(got)
	}
	for _, e := range someTrees(t) {
		if got := parse.Depth(e); got != modelDepth(e) {
			t.Error(spelt(e), got)
		}
	}
}
