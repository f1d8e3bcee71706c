package scrape_test

import (
	"math"
	"math/big"
	"slices"
	"testing"

	"vigil/api"
	"vigil/scrape"
)

func wantDue(t *testing.T, offset, interval, from, to, want int, ok bool) {
	t.Helper()
	if at, due := scrape.Due(api.Target{Offset: offset}, interval, from, to); at != want || due != ok {
		t.Errorf("Due of Offset %d, interval %d, %d to %d is %d, %v; want %d, %v", offset, interval, from, to, at, due, want, ok)
	}
}

// steps is up to most times that Steps tells.
func steps(offset, interval, from, to, most int) []int {
	var l []int
	for at := range scrape.Steps(api.Target{Offset: offset}, interval, from, to) {
		if len(l) == most {
			break
		}
		l = append(l, at)
	}
	return l
}

// meets tells whether the remainder of n, 0 or more, is the offset.
func meets(n, interval, offset int) bool {
	if interval < 1 {
		return false
	}
	return new(big.Int).Mod(big.NewInt(int64(n)), big.NewInt(int64(interval))).Cmp(big.NewInt(int64(offset))) == 0
}

// P12.4: Due and Steps, held against all times of a small span.
func TestDueAndSteps(t *testing.T) {
	for interval := -2; interval <= 7; interval++ {
		for offset := -2; offset <= 8; offset++ {
			for from := -16; from <= 16; from++ {
				for to := from - 3; to <= 16; to++ {
					var want []int
					for at := from + 1; at <= to; at++ {
						if meets(at, interval, offset) {
							want = append(want, at)
						}
					}
					if got := steps(offset, interval, from, to, 100); !slices.Equal(got, want) {
						t.Fatalf("Steps of Offset %d, interval %d, %d to %d are %v; want %v", offset, interval, from, to, got, want)
					}
					if len(want) == 0 {
						wantDue(t, offset, interval, from, to, 0, false)
					} else {
						wantDue(t, offset, interval, from, to, want[len(want)-1], true)
					}
				}
			}
		}
	}
}

// P12.4: times reach from -MaxTime to MaxTime.
func TestDueAtTheEnds(t *testing.T) {
	const end = api.MaxTime
	wantDue(t, 0, 1, end-1, end, end, true)
	wantDue(t, 0, 1, -end, -end+1, -end+1, true)
	wantDue(t, 0, 1, -end-1, -end, -end, true)
	wantDue(t, 0, 1, -end, -end, 0, false)
	wantDue(t, 0, 1, end, end, 0, false)
	wantDue(t, 0, end, 0, end, end, true)
	wantDue(t, 0, end, -end, end-1, 0, true)
	wantDue(t, 0, end, -end, 0, 0, true)
	wantDue(t, 0, end, -end-1, -1, -end, true)
	wantDue(t, 0, end, -end, -1, 0, false)
	wantDue(t, end-1, end, -end, end, end-1, true)
	wantDue(t, 1, end, -end, 0, -end+1, true)
	wantDue(t, 0, 1, end, -end, 0, false)
	wantDue(t, 5, math.MaxInt, -end, end, 5, true)
	wantDue(t, math.MaxInt-1, math.MaxInt, -end, end, -1, true)
	wantDue(t, math.MaxInt-end, math.MaxInt, -end-1, end, -end, true)
	wantDue(t, math.MaxInt-end-1, math.MaxInt, -end-1, end, 0, false)
	// What lies beyond is no time.
	for _, far := range []int{end + 1, end + 2, math.MaxInt - 1, math.MaxInt} {
		wantDue(t, 0, 1, 0, far, end, true)
		wantDue(t, 0, 1, end, far, 0, false)
		wantDue(t, 0, 1, -far, -end, -end, true)
		wantDue(t, 0, 1, -far-1, -end-1, 0, false)
		wantDue(t, 0, far, -far-1, far, 0, true)
		wantDue(t, 0, 1, far, far, 0, false)
		wantDue(t, 0, 1, far, -far, 0, false)
		if got := steps(0, 1, end-2, far, 9); !slices.Equal(got, []int{end - 1, end}) {
			t.Error("Steps up to the last time", got)
		}
		if got := steps(0, 1, -far-1, -end+1, 9); !slices.Equal(got, []int{-end, -end + 1}) {
			t.Error("Steps from the first time on", got)
		}
	}
	if got := steps(0, end, math.MinInt, math.MaxInt, 9); !slices.Equal(got, []int{-end, 0, end}) {
		t.Error("Steps over all times", got)
	}
	if got := steps(7, math.MaxInt, math.MinInt, math.MaxInt, 9); !slices.Equal(got, []int{7}) {
		t.Error("Steps by the greatest interval", got)
	}
	if got := steps(3, 10, 0, math.MaxInt, 3); !slices.Equal(got, []int{3, 13, 23}) {
		t.Error("Steps that are stopped", got)
	}
}

// P12.4: of an interval below 1, and of an Offset that is no remainder, none.
func TestNoneIsDue(t *testing.T) {
	for _, interval := range []int{0, -1, -10, math.MinInt} {
		for _, offset := range []int{0, 3, -3, math.MinInt, math.MaxInt} {
			wantDue(t, offset, interval, -100, 100, 0, false)
			if got := steps(offset, interval, -100, 100, 9); len(got) > 0 {
				t.Error("Steps of the interval", interval, got)
			}
		}
	}
	for _, offset := range []int{-1, 10, 13, math.MinInt, math.MaxInt} {
		wantDue(t, offset, 10, -100, 100, 0, false)
		if got := steps(offset, 10, -100, 100, 9); len(got) > 0 {
			t.Error("Steps of the Offset", offset, got)
		}
	}
}

// P12.4, R1: Steps may be stopped at any time, and ranged over again.
func TestStepsAgain(t *testing.T) {
	all := scrape.Steps(api.Target{Offset: 3}, 10, -20, 40)
	want := []int{-17, -7, 3, 13, 23, 33}
	for stop := range len(want) + 1 {
		var got []int
		for at := range all {
			got = append(got, at)
			if len(got) == stop {
				break
			}
		}
		if stop == 0 {
			stop = len(want)
		}
		if !slices.Equal(got, want[:stop]) {
			t.Errorf("stopped behind %d: %v", stop, got)
		}
	}
	var pairs int
	for range all {
		for range all {
			pairs++
		}
	}
	if pairs != len(want)*len(want) {
		t.Error("ranged over within itself", pairs)
	}
}

// P12.8: between any two times that are apart by the interval just one is due.
func TestJustOneIsDue(t *testing.T) {
	for _, interval := range []int{1, 2, 7, 1000, 1 << 40, api.MaxTime} {
		for _, offset := range []int{0, interval / 3, interval - 1} {
			for _, from := range []int{-api.MaxTime, -interval - 1, -interval, -1, 0, 1, interval - 1, interval, api.MaxTime - interval} {
				if from < -api.MaxTime || from+interval > api.MaxTime {
					continue
				}
				l := steps(offset, interval, from, from+interval, 9)
				if len(l) != 1 || !meets(l[0], interval, offset) || l[0] <= from || l[0] > from+interval {
					t.Fatal("Steps", offset, interval, from, l)
				}
				wantDue(t, offset, interval, from, from+interval, l[0], true)
			}
		}
	}
}
