package funcs

import "math"

// What the Gregorian calendar is made of. The last of four years, and the last of four centuries, has a day more than the others.
const (
	daySeconds  = 86400
	yearDays    = 365
	leapDays    = 4*yearDays + 1    // of four years
	centuryDays = 25*leapDays - 1   // of a hundred years
	eraDays     = 4*centuryDays + 1 // of four hundred years, behind which all comes again
	epochDays   = 719162            // from the first day of the year 1 to that of 1970
)

// A date is a day of the calendar.
type date struct {
	year, month, day int
	yearDay          int // from 1 on
}

// Part is a part of a date.
func Part(name string, v float64) float64 {
	const most = 1e11
	if !(v >= -most && v <= most) {
		return math.NaN()
	}
	days, second := divided(int(math.Floor(v)), daySeconds)
	part := 0
	switch name {
	case "minute":
		part = second / 60 % 60
	case "hour":
		part = second / 3600
	case "day_of_week":
		_, part = divided(days+4, 7) // 1970 began on a Thursday
	case "day_of_month":
		part = dateOf(days).day
	case "day_of_year":
		part = dateOf(days).yearDay
	case "days_in_month":
		d := dateOf(days)
		part = monthDays(d.year, d.month)
	case "month":
		part = dateOf(days).month
	case "year":
		part = dateOf(days).year
	default:
		return math.NaN()
	}
	return float64(part)
}

// dateOf is the date so many days behind the first one of 1970.
func dateOf(days int) date {
	era, rest := divided(days+epochDays, eraDays)
	century := min(rest/centuryDays, 3)
	rest -= century * centuryDays
	leap := rest / leapDays
	rest -= leap * leapDays
	year := min(rest/yearDays, 3)
	rest -= year * yearDays
	d := date{year: 400*era + 100*century + 4*leap + year + 1, month: 1, yearDay: rest + 1}
	for rest >= monthDays(d.year, d.month) {
		rest -= monthDays(d.year, d.month)
		d.month++
	}
	d.day = rest + 1
	return d
}

// monthDays is how many days the month of that year has.
func monthDays(year, month int) int {
	switch month {
	case 4, 6, 9, 11:
		return 30
	case 2:
		if year%4 == 0 && (year%100 != 0 || year%400 == 0) {
			return 29
		}
		return 28
	}
	return 31
}

// divided is how often n has the whole of by in it, rounded down, and what is left, which is never below 0.
func divided(n, by int) (int, int) {
	rest := (n%by + by) % by
	return (n - rest) / by, rest
}
