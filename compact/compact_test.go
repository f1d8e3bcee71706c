package compact_test

import (
	"fmt"
	"math"
	"math/big"
	"slices"
	"strings"
	"testing"

	"vigil/api"
	"vigil/compact"
)

// numbers are as good as any, and the same in each run.
type numbers uint64

func (n *numbers) below(most int) int {
	*n = *n*6364136223846793005 + 1442695040888963407
	return int(uint64(*n)>>33) % most
}

func pick[T any](n *numbers, l []T) T { return l[n.below(len(l))] }

// edges are the numbers where reckoning goes wrong most readily.
func edges() []int {
	var l []int
	for _, x := range []int{0, api.MaxTime, -api.MaxTime, api.MaxTime / 3, api.MaxTime / 9, 2 * api.MaxTime, math.MaxInt / 9, math.MaxInt / 3, math.MaxInt / 2} {
		for by := -3; by <= 3; by++ {
			l = append(l, x+by)
		}
	}
	return append(l, math.MinInt, math.MinInt+1, math.MinInt/2, math.MaxInt-1, math.MaxInt)
}

// near draws a time near another one, and now and then an edge.
func (n *numbers) near(at int) int {
	if n.below(16) == 0 {
		return pick(n, edges())
	}
	return at + n.below(60) - 30
}

// counted is t as the chapter counts it.
func counted(t int) *big.Int {
	switch {
	case t < -api.MaxTime:
		t = -api.MaxTime
	case t > api.MaxTime:
		t = api.MaxTime
	}
	return big.NewInt(int64(t))
}

// countedWidth is a width as the chapter counts it.
func countedWidth(width int) *big.Int {
	if width < 1 {
		width = 1
	}
	return big.NewInt(int64(width))
}

func plus(a, b *big.Int) *big.Int  { return new(big.Int).Add(a, b) }
func minus(a, b *big.Int) *big.Int { return new(big.Int).Sub(a, b) }
func times(a, b *big.Int) *big.Int { return new(big.Int).Mul(a, b) }
func over(a, b *big.Int) *big.Int  { return new(big.Int).Div(a, b) } // rounded down, b being above 0

// P9.1: the chapter's runs, and the ends of all numbers.
func TestFloor(t *testing.T) {
	for _, x := range [][3]int{
		{7, 5, 5}, {-1, 5, -5}, {-5, 5, -5}, {5, 5, 5}, {4, 5, 0}, {0, 5, 0}, {-6, 5, -10},
		{7, 1, 7}, {-7, 1, -7}, {7, 0, 7}, {-7, -3, -7}, {7, math.MinInt, 7},
		{api.MaxTime, 1, api.MaxTime}, {api.MaxTime + 1, 1, api.MaxTime}, {math.MaxInt, 0, api.MaxTime},
		{-api.MaxTime, 1, -api.MaxTime}, {-api.MaxTime - 1, 1, -api.MaxTime}, {math.MinInt, 1, -api.MaxTime},
		{-api.MaxTime, api.MaxTime, -api.MaxTime}, {-api.MaxTime, 3, -api.MaxTime - 1}, {math.MaxInt, 10, api.MaxTime / 10 * 10},
		{3, math.MaxInt, 0}, {-3, math.MaxInt, -math.MaxInt}, {math.MinInt, math.MaxInt, -math.MaxInt}, {math.MaxInt, math.MaxInt, 0},
	} {
		if got := compact.Floor(x[0], x[1]); got != x[2] {
			t.Fatalf("Floor(%d, %d) is %d, want %d", x[0], x[1], got, x[2])
		}
	}
}

// P9.1: a multiple, no more than the time, and the next one is more.
func TestFloorByItsWords(t *testing.T) {
	widths := append(edges(), 2, 7, 10, 1000, 7200000)
	for _, at := range append(edges(), -7, 99, -1001) {
		for _, width := range widths {
			w := countedWidth(width)
			want := times(over(counted(at), w), w)
			if got := compact.Floor(at, width); want.Cmp(big.NewInt(int64(got))) != 0 {
				t.Fatalf("Floor(%d, %d) is %d, want %v", at, width, got, want)
			}
		}
	}
}

func wantInts(t *testing.T, call string, got []int, want ...int) {
	t.Helper()
	if !slices.Equal(got, want) {
		t.Fatalf("%s: %d, want %d", call, got, want)
	}
}

// P9.1: the chapter's run and example, and each edge by itself.
func TestCuts(t *testing.T) {
	l := []int{1, 12, 13, 27}
	wantInts(t, "run", compact.Cuts(l, 30, 10), 0, 10)
	wantInts(t, "half a width behind", compact.Cuts(l, 35, 10), 0, 10, 20)
	wantInts(t, "one less than half a width behind", compact.Cuts(l, 34, 10), 0, 10)
	wantInts(t, "out of order, met twice", compact.Cuts([]int{27, 13, -1, 1, 12, 13, -10, -11}, 99, 10), -20, -10, 0, 10, 20)
	wantInts(t, "no times", compact.Cuts(nil, 30, 10))
	wantInts(t, "empty times", compact.Cuts([]int{}, 30, 10))
	wantInts(t, "none that is ripe", compact.Cuts(l, 0, 10))
	wantInts(t, "half of an odd width is rounded down", compact.Cuts([]int{0}, 7, 5), 0)
	wantInts(t, "and not lower", compact.Cuts([]int{0}, 6, 5))
	wantInts(t, "width 1", compact.Cuts([]int{3, 4, 5}, 5, 1), 3, 4)
	wantInts(t, "width 0", compact.Cuts([]int{3, 4, 5}, 5, 0), 3, 4)
	wantInts(t, "width below 0", compact.Cuts([]int{3, 4, 5}, 5, math.MinInt), 3, 4)
	wantInts(t, "below 0", compact.Cuts([]int{-25, -3}, -5, 10), -30)
	wantInts(t, "below 0, newer", compact.Cuts([]int{-25, -3}, 5, 10), -30, -10)
}

// P9.1: at the ends of all times, and outside of them.
func TestCutsAtTheEnds(t *testing.T) {
	last := api.MaxTime
	wantInts(t, "the last time", compact.Cuts([]int{last - 1, last}, last, 1), last-1)
	wantInts(t, "newest outside", compact.Cuts([]int{last - 1, last, math.MaxInt}, math.MaxInt, 1), last-1)
	wantInts(t, "a time outside counts as the last one", compact.Cuts([]int{math.MaxInt}, math.MaxInt, 10))
	wantInts(t, "a time outside counts as the first one", compact.Cuts([]int{math.MinInt, -last, -last - 1}, 0, 1), -last)
	wantInts(t, "newest at the first time", compact.Cuts([]int{math.MinInt, 0, last}, -last, 1))
	wantInts(t, "newest outside, first", compact.Cuts([]int{math.MinInt, 0, last}, math.MinInt, 1))
	wantInts(t, "the greatest width", compact.Cuts([]int{math.MinInt, -1, 0, math.MaxInt}, math.MaxInt, math.MaxInt))
	wantInts(t, "all times are half of a width", compact.Cuts([]int{-1, 0}, last, 2*last), -2*last)
	wantInts(t, "and one of an odd width", compact.Cuts([]int{-1, 0}, last, 2*last+1), -2*last-1)
	wantInts(t, "and less", compact.Cuts([]int{-1, 0}, last, 2*last+2))
}

// cutsByWords reckons Cuts by numbers without an end.
func cutsByWords(l []int, newest, width int) []int {
	w := countedWidth(width)
	var out []int
	for _, x := range l {
		b := times(over(counted(x), w), w)
		if plus(b, w).Cmp(minus(counted(newest), over(w, big.NewInt(2)))) <= 0 {
			out = append(out, int(b.Int64()))
		}
	}
	slices.Sort(out)
	return slices.Compact(out)
}

// P9.1: as by its words, of many times.
func TestCutsByTheirWords(t *testing.T) {
	n := numbers(1)
	met := 0
	for range 20000 {
		at := pick(&n, []int{0, 0, api.MaxTime, -api.MaxTime})
		width := n.below(14) - 1
		if n.below(6) == 0 {
			width = n.near(at)
		}
		var l []int
		for range n.below(6) {
			l = append(l, n.near(at))
		}
		newest := n.near(at)
		want := cutsByWords(l, newest, width)
		if got := compact.Cuts(l, newest, width); !slices.Equal(got, want) {
			t.Fatalf("Cuts(%d, %d, %d): %d, want %d", l, newest, width, got, want)
		}
		if len(want) > 1 {
			met++
		}
	}
	if met < 1000 {
		t.Fatal("the draws say too little:", met)
	}
}

// set reads labels like "a=1 b=2"; of an empty text none.
func set(text string) []api.Label {
	var out []api.Label
	for _, word := range strings.Fields(text) {
		name, value, _ := strings.Cut(word, "=")
		out = append(out, api.Label{Name: name, Value: value})
	}
	return out
}

// row is a series of those labels; the numbers are times and values.
func row(text string, l ...int) api.Series {
	s := api.Series{Labels: set(text)}
	for i := 0; i < len(l); i += 2 {
		s.Samples = append(s.Samples, api.Sample{T: l[i], V: float64(l[i+1])})
	}
	return s
}

func gone(text string, mint, maxt int) api.Gone {
	return api.Gone{Labels: set(text), Min: mint, Max: maxt}
}

// spelt writes all of the series, bit by bit.
func spelt(l []api.Series) string {
	var out strings.Builder
	for _, s := range l {
		fmt.Fprintf(&out, "%q", s.Labels)
		for _, x := range s.Samples {
			fmt.Fprintf(&out, " %d:%x", x.T, math.Float64bits(x.V))
		}
		out.WriteString("\n")
	}
	return out.String()
}

func speltGone(l []api.Gone) string {
	var out strings.Builder
	for _, x := range l {
		fmt.Fprintf(&out, "%q %d %d\n", x.Labels, x.Min, x.Max)
	}
	return out.String()
}

func wantSeries(t *testing.T, call string, got []api.Series, want ...api.Series) {
	t.Helper()
	if spelt(got) != spelt(want) {
		t.Fatalf("%s:\n%swant:\n%s", call, spelt(got), spelt(want))
	}
}

func wantGone(t *testing.T, call string, got []api.Gone, want ...api.Gone) {
	t.Helper()
	if speltGone(got) != speltGone(want) {
		t.Fatalf("%s:\n%swant:\n%s", call, speltGone(got), speltGone(want))
	}
}
