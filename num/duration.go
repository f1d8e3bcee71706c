package num

import (
	"strconv"
	"strings"

	"vigil/api"
)

// maxDigits is how many digits a part of a duration may have.
const maxDigits = 15

// unit is a unit of durations and its milliseconds.
type unit struct {
	name string
	ms   int
}

// units stand in the order in which a duration tells them.
var units = [...]unit{
	{"y", 365 * 24 * 3600000},
	{"w", 7 * 24 * 3600000},
	{"d", 24 * 3600000},
	{"h", 3600000},
	{"m", 60000},
	{"s", 1000},
	{"ms", 1},
}

// Duration reads a duration in milliseconds.
func Duration(s string) (int, api.Errno) {
	if s == "0" {
		return 0, api.OK
	}
	if s == "" {
		return 0, api.ErrForm
	}
	total, free, large := 0, 0, false
	for s != "" {
		count, name, rest, ok := cutPart(s)
		at := unitAt(name)
		if !ok || at < free {
			return 0, api.ErrForm
		}
		free = at + 1
		// A form that is wrong further on is told ahead of the size.
		if count > (api.MaxTime-total)/units[at].ms {
			large = true
		} else {
			total += count * units[at].ms
		}
		s = rest
	}
	if large {
		return 0, api.ErrLarge
	}
	return total, api.OK
}

// DurationText writes a duration.
func DurationText(ms int) string {
	if ms == 0 {
		return "0s"
	}
	var out strings.Builder
	if ms < 0 {
		out.WriteByte('-')
	}
	left := size(ms)
	for _, u := range units {
		if count := left / uint64(u.ms); count > 0 {
			out.WriteString(strconv.FormatUint(count, 10))
			out.WriteString(u.name)
		}
		left %= uint64(u.ms)
	}
	return out.String()
}

// Seconds writes milliseconds as seconds.
func Seconds(ms int) string {
	sign := ""
	if ms < 0 {
		sign = "-"
	}
	whole := strconv.FormatUint(size(ms)/1000, 10)
	behind := size(ms) % 1000
	if behind == 0 {
		return sign + whole
	}
	// The 1 ahead keeps the noughts behind the point.
	digits := strconv.FormatUint(1000+behind, 10)[1:]
	return sign + whole + "." + strings.TrimRight(digits, "0")
}

// cutPart is the number that s begins with, the name of a unit behind it, and what stands behind both.
func cutPart(s string) (count int, name, rest string, ok bool) {
	digits := 0
	for digits < len(s) && isDigit(s[digits]) {
		if digits == maxDigits {
			return 0, "", "", false
		}
		count = count*10 + int(s[digits]-'0')
		digits++
	}
	if digits == 0 {
		return 0, "", "", false
	}
	end := digits
	for end < len(s) && !isDigit(s[end]) {
		end++
	}
	return count, s[digits:end], s[end:], true
}

// unitAt is where the unit of that name stands among the units, -1 if there is none.
func unitAt(name string) int {
	for i, u := range units {
		if u.name == name {
			return i
		}
	}
	return -1
}
