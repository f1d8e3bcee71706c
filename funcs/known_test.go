package funcs_test

import (
	"slices"
	"strings"
	"testing"

	"vigil/api"
	"vigil/funcs"
)

// rows is the chapter's table, with a letter for each type: s for scalar, t for string (text), v for vector, m for matrix.
var rows = []struct {
	names  string
	args   string
	least  int
	result string
}{
	{"abs ceil floor sqrt sgn", "v", 1, "v"},
	{"round", "vs", 1, "v"},
	{"clamp", "vss", 3, "v"},
	{"clamp_min clamp_max", "vs", 2, "v"},
	{"rate increase delta irate idelta resets changes avg_over_time sum_over_time min_over_time max_over_time count_over_time last_over_time present_over_time stddev_over_time stdvar_over_time absent_over_time", "m", 1, "v"},
	{"quantile_over_time", "sm", 2, "v"},
	{"histogram_quantile", "sv", 2, "v"},
	{"label_replace", "vtttt", 5, "v"},
	{"label_join", "vttt", 4, "v"},
	{"sort sort_desc absent timestamp", "v", 1, "v"},
	{"scalar", "v", 1, "s"},
	{"vector", "s", 1, "v"},
	{"time", "", 0, "s"},
	{"minute hour day_of_week day_of_month day_of_year days_in_month month year", "v", 0, "v"},
}

// letters are of the types from TScalar on.
const letters = "stvm"

func types(spelt string) []int {
	var out []int
	for _, letter := range spelt {
		out = append(out, api.TScalar+strings.IndexRune(letters, letter))
	}
	return out
}

// P14.1: each row of the table.
func TestKnown(t *testing.T) {
	count := 0
	for _, row := range rows {
		for _, name := range strings.Fields(row.names) {
			args, least, result, ok := funcs.Known(name)
			if !slices.Equal(args, types(row.args)) || least != row.least || result != types(row.result)[0] || !ok {
				t.Error(name, args, least, result, ok)
			}
			count++
		}
	}
	if count != 45 {
		t.Error(count)
	}
}

// P14.1: of any other name there is nothing.
func TestUnknown(t *testing.T) {
	names := []string{"", "nosuch", "sum", "topk", "count_values", "inf", "NaN", "by", "Rate", "RATE", " rate", "rate ", "rate(", "rate_", "over_time", "_over_time", "avg", "last", "quantile", "label", "days", "\xff", "a\x00"}
	for _, row := range rows {
		for _, name := range strings.Fields(row.names) {
			names = append(names, name[:len(name)-1]+"X", strings.ToUpper(name), name+"s")
		}
	}
	for _, name := range names {
		if args, least, result, ok := funcs.Known(name); len(args) > 0 || least != 0 || result != 0 || ok {
			t.Errorf("%q: %v, %d, %d, %v", name, args, least, result, ok)
		}
	}
}

// R2: what is answered is new memory.
func TestKnownIsNew(t *testing.T) {
	for _, row := range rows {
		for _, name := range strings.Fields(row.names) {
			args, _, _, _ := funcs.Known(name)
			for i := range args[:cap(args)] {
				args[:cap(args)][i] = -1
			}
			if again, _, _, _ := funcs.Known(name); !slices.Equal(again, types(row.args)) {
				t.Error(name, again)
			}
		}
	}
}
