package compact_test

import (
	"math"
	"testing"

	"vigil/api"
	"vigil/compact"
)

func holes(l ...api.Gone) []api.Gone { return l }

// P9.5: the chapter's run, and each edge by itself.
func TestLess(t *testing.T) {
	one := list(row("a=1", 1, 1, 2, 2))
	wantSeries(t, "run", compact.Less(one, holes(gone("a=1", 2, 9))), row("a=1", 1, 1))
	wantSeries(t, "nothing gone", compact.Less(one, nil), one...)
	wantSeries(t, "of other labels", compact.Less(one, holes(gone("a=2", 0, 9), gone("a=1 b=1", 0, 9), gone("", 0, 9))), one...)
	wantSeries(t, "Min above Max", compact.Less(one, holes(gone("a=1", 2, 1), gone("a=1", math.MaxInt, math.MinInt))), one...)
	wantSeries(t, "all of it", compact.Less(one, holes(gone("a=1", 1, 2))))
	wantSeries(t, "of nothing", compact.Less(nil, holes(gone("a=1", 1, 2))))
	wantSeries(t, "without samples", compact.Less(list(row("a=1"), row("a=2", 1, 1)), nil), row("a=2", 1, 1))
	wantSeries(t, "of no labels", compact.Less(list(row("", 1, 1, 2, 2)), holes(gone("", 2, 2))), row("", 1, 1))
	wantSeries(t, "one number", compact.Less(list(row("a=1", 1, 1, 2, 2, 3, 3)), holes(gone("a=1", 2, 2))), row("a=1", 1, 1, 3, 3))
	wantSeries(t, "both ends", compact.Less(list(row("a=1", 4, 1, 5, 2, 6, 3, 7, 4, 8, 5)), holes(gone("a=1", 5, 7))), row("a=1", 4, 1, 8, 5))
	wantSeries(t, "all numbers", compact.Less(list(row("a=1", -api.MaxTime, 1, 0, 2, api.MaxTime, 3)), holes(gone("a=1", math.MinInt, math.MaxInt))))
	wantSeries(t, "behind all times", compact.Less(list(row("a=1", api.MaxTime, 3)), holes(gone("a=1", api.MaxTime+1, math.MaxInt), gone("a=1", math.MinInt, api.MaxTime-1))), row("a=1", api.MaxTime, 3))
}

// P9.5: series and samples stay in their order, and are not merged.
func TestLessOrder(t *testing.T) {
	l := list(row("b=1", 3, 3, 1, 1, 2, 2), row("a=1", 5, 5), row("b=1", 2, 9, 3, 8), row("a=0", 2, 2))
	got := compact.Less(l, holes(gone("b=1", 2, 2), gone("a=1", 0, 9)))
	wantSeries(t, "in their order", got, row("b=1", 3, 3, 1, 1), row("b=1", 3, 8), row("a=0", 2, 2))
}

// P9.5: several pieces of one set, out of order, that overlap and leave gaps.
func TestLessPieces(t *testing.T) {
	l := list(row("a=1", 0, 0, 1, 1, 2, 2, 3, 3, 4, 4, 5, 5, 6, 6, 7, 7, 8, 8, 9, 9))
	got := compact.Less(l, holes(gone("a=1", 8, 8), gone("a=1", 1, 5), gone("a=2", 0, 9), gone("a=1", 2, 3), gone("a=1", 7, 6)))
	wantSeries(t, "pieces", got, row("a=1", 0, 0, 6, 6, 7, 7, 9, 9))
}

// P9.5: the chapter's run, and each edge by itself.
func TestUnion(t *testing.T) {
	const least, most = math.MinInt, math.MaxInt
	for _, x := range []struct {
		call    string
		l, want []api.Gone
	}{
		{"run", holes(gone("a=1", 1, 3), gone("a=1", 4, 6), gone("a=1", 9, 9)), holes(gone("a=1", 1, 6), gone("a=1", 9, 9))},
		{"none", nil, nil},
		{"Min above Max", holes(gone("a=1", 2, 1), gone("a=1", most, least)), nil},
		{"Min above Max joins nothing", holes(gone("a=1", 1, 2), gone("a=1", 5, 3), gone("a=1", 6, 7)), holes(gone("a=1", 1, 2), gone("a=1", 6, 7))},
		{"one number", holes(gone("a=1", 0, 0)), holes(gone("a=1", 0, 0))},
		{"one number between", holes(gone("a=1", 1, 3), gone("a=1", 5, 6)), holes(gone("a=1", 1, 3), gone("a=1", 5, 6))},
		{"one number fills it", holes(gone("a=1", 1, 3), gone("a=1", 5, 6), gone("a=1", 4, 4)), holes(gone("a=1", 1, 6))},
		{"overlap", holes(gone("a=1", 1, 5), gone("a=1", 3, 9)), holes(gone("a=1", 1, 9))},
		{"one within another", holes(gone("a=1", 1, 9), gone("a=1", 3, 4), gone("a=1", 10, 11)), holes(gone("a=1", 1, 11))},
		{"one end in common", holes(gone("a=1", 5, 9), gone("a=1", 1, 5)), holes(gone("a=1", 1, 9))},
		{"met twice", holes(gone("a=1", 1, 2), gone("a=1", 1, 2)), holes(gone("a=1", 1, 2))},
		{"of one Min", holes(gone("a=1", 1, 7), gone("a=1", 1, 2)), holes(gone("a=1", 1, 7))},
		{"across 0", holes(gone("a=1", -5, -1), gone("a=1", 0, 3)), holes(gone("a=1", -5, 3))},
		{"sets apart, rising", holes(gone("b=1", 1, 3), gone("a=2", 4, 6), gone("", 2, 2), gone("a=1 b=1", 5, 7), gone("a=1", 4, 4)), holes(gone("", 2, 2), gone("a=1", 4, 4), gone("a=1 b=1", 5, 7), gone("a=2", 4, 6), gone("b=1", 1, 3))},
		{"sets that touch stay apart", holes(gone("a=1", 1, 3), gone("a=2", 4, 6), gone("a=2", 2, 3)), holes(gone("a=1", 1, 3), gone("a=2", 2, 6))},
		{"all numbers", holes(gone("a=1", 3, most), gone("a=1", least, most)), holes(gone("a=1", least, most))},
		{"two halves of all numbers", holes(gone("a=1", 0, most), gone("a=1", least, -1)), holes(gone("a=1", least, most))},
		{"the ends of all numbers", holes(gone("a=1", most, most), gone("a=1", least, least)), holes(gone("a=1", least, least), gone("a=1", most, most))},
		{"close to the ends", holes(gone("a=1", most, most), gone("a=1", most-1, most-1), gone("a=1", least, least), gone("a=1", least+1, 0)), holes(gone("a=1", least, 0), gone("a=1", most-1, most))},
		{"the greatest number twice", holes(gone("a=1", most, most), gone("a=1", most, most)), holes(gone("a=1", most, most))},
		{"the least number twice", holes(gone("a=1", least, least), gone("a=1", least, least), gone("a=1", least+2, 9)), holes(gone("a=1", least, least), gone("a=1", least+2, 9))},
	} {
		wantGone(t, x.call, compact.Union(x.l), x.want...)
		wantGone(t, x.call+", again", compact.Union(x.want), x.want...)
		var back []api.Gone
		for _, y := range x.l {
			back = append(holes(y), back...)
		}
		wantGone(t, x.call+", the other way about", compact.Union(back), x.want...)
	}
}
