package funcs_test

import (
	"math"
	"math/rand"
	"strings"
	"testing"
	"time"

	"vigil/funcs"
)

// parts is the names of Part.
const parts = "minute hour day_of_week day_of_month day_of_year days_in_month month year"

// P14.7: minute, hour, day of the week (0: Sunday), of the month, of the year, days of the month, month and year.
func TestPart(t *testing.T) {
	for _, x := range []struct{ v, want string }{
		{"0", "0 0 4 1 1 31 1 1970"},
		{"-0", "0 0 4 1 1 31 1 1970"},
		{"min", "0 0 4 1 1 31 1 1970"},
		// Below 0, and fractions: rounded down.
		{"-1", "59 23 3 31 365 31 12 1969"},
		{"-min", "59 23 3 31 365 31 12 1969"},
		{"-0.5", "59 23 3 31 365 31 12 1969"},
		{"-60", "59 23 3 31 365 31 12 1969"},
		{"-60.000001", "58 23 3 31 365 31 12 1969"},
		{"-3600.5", "59 22 3 31 365 31 12 1969"},
		{"59.999999", "0 0 4 1 1 31 1 1970"},
		{"60", "1 0 4 1 1 31 1 1970"},
		{"3599.9", "59 0 4 1 1 31 1 1970"},
		{"3600", "0 1 4 1 1 31 1 1970"},
		// Ends of days, months, years.
		{"86399", "59 23 4 1 1 31 1 1970"},
		{"86400", "0 0 5 2 2 31 1 1970"},
		{"-86400", "0 0 3 31 365 31 12 1969"},
		{"-86401", "59 23 2 30 364 31 12 1969"},
		{"259199", "59 23 6 3 3 31 1 1970"},
		{"259200", "0 0 0 4 4 31 1 1970"},
		{"2678399", "59 23 6 31 31 31 1 1970"},
		{"2678400", "0 0 0 1 32 28 2 1970"},
		{"5097599", "59 23 6 28 59 28 2 1970"},
		{"5097600", "0 0 0 1 60 31 3 1970"},
		{"31535999", "59 23 4 31 365 31 12 1970"},
		{"31536000", "0 0 5 1 1 31 1 1971"},
		// Leap years.
		{"68169600", "0 0 2 29 60 29 2 1972"},
		{"68256000", "0 0 3 1 61 31 3 1972"},
		{"94694399", "59 23 0 31 366 31 12 1972"},
		{"94694400", "0 0 1 1 1 31 1 1973"},
		{"1735603200", "0 0 2 31 366 31 12 2024"},
		// Centuries: 2000 and 1600 are leap years, 1900 and 2100 are none, nor is the year 100; the year 0 is one.
		{"951782400", "0 0 2 29 60 29 2 2000"},
		{"951868800", "0 0 3 1 61 31 3 2000"},
		{"978220800", "0 0 0 31 366 31 12 2000"},
		{"-2203977600", "0 0 3 28 59 28 2 1900"},
		{"-2203891200", "0 0 4 1 60 31 3 1900"},
		{"4107456000", "0 0 0 28 59 28 2 2100"},
		{"4107542400", "0 0 1 1 60 31 3 2100"},
		{"-11670998400", "0 0 2 29 60 29 2 1600"},
		{"-62135596800", "0 0 1 1 1 31 1 1"},
		{"-62135596801", "59 23 0 31 366 31 12 0"},
		{"-62162121600", "0 0 2 29 60 29 2 0"},
		{"-62167219200", "0 0 6 1 1 31 1 0"},
		{"-62167219201", "59 23 5 31 365 31 12 -1"},
		{"253402300800", "nan nan nan nan nan nan nan nan"},
		// The ends of what has parts.
		{"1e11", "46 9 3 16 320 30 11 5138"},
		{"99999999999.99998", "46 9 3 16 320 30 11 5138"},
		{"-1e11", "13 14 4 15 46 28 2 -1199"},
		{"100000000000.00002", "nan nan nan nan nan nan nan nan"},
		{"-100000000000.00002", "nan nan nan nan nan nan nan nan"},
		{"max", "nan nan nan nan nan nan nan nan"},
		{"-max", "nan nan nan nan nan nan nan nan"},
		{"inf", "nan nan nan nan nan nan nan nan"},
		{"-inf", "nan nan nan nan nan nan nan nan"},
		{"nan", "nan nan nan nan nan nan nan nan"},
		{"stale", "nan nan nan nan nan nan nan nan"},
	} {
		want := list(x.want)
		for i, name := range strings.Fields(parts) {
			wantFloat(t, funcs.Part(name, value(x.v)), want[i], name, x.v)
		}
	}
	for _, name := range []string{"", "nosuch", "second", "day", "days_in_year", "week", "Minute", "YEAR", "year ", "time", "\xff"} {
		for _, v := range []float64{0, 951782400, -1, nan, inf, 1e12} {
			wantFloat(t, funcs.Part(name, v), nan, name, v)
		}
	}
}

// wantParts holds all parts of a time against the library's calendar.
func wantParts(t *testing.T, v float64) {
	at := time.Unix(int64(math.Floor(v)), 0).UTC()
	days := time.Date(at.Year(), at.Month()+1, 0, 0, 0, 0, 0, time.UTC).Day()
	names := strings.Fields(parts)
	for i, want := range []int{at.Minute(), at.Hour(), int(at.Weekday()), at.Day(), at.YearDay(), days, int(at.Month()), at.Year()} {
		wantFloat(t, funcs.Part(names[i], v), float64(want), names[i], v)
	}
}

// P14.7: all days of four hundred years and of the years around the year 0, many others, and many times.
func TestPartCalendar(t *testing.T) {
	const day = 86400
	for _, span := range [][2]int{{-72000, 78000}, {-730000, -710000}} {
		for n := span[0]; n < span[1] && !t.Failed(); n++ {
			wantParts(t, float64(n*day)-float64(n%2)*0.25)
		}
	}
	r := rand.New(rand.NewSource(147))
	for range 30000 {
		wantParts(t, (2*r.Float64()-1)*1e11)
		wantParts(t, float64(r.Intn(day*800)-day*400))
	}
}
