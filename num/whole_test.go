package num_test

import (
	"math"
	"math/big"
	"math/rand"
	"regexp"
	"strconv"
	"strings"
	"testing"

	"vigil/api"
	"vigil/num"
)

func TestInts(t *testing.T) {
	for n, want := range map[int]string{0: "0", 1: "1", -1: "-1", 9: "9", 10: "10", -10: "-10", 99: "99", 100: "100", -900: "-900", 1 << 53: "9007199254740992", math.MaxInt: "9223372036854775807", math.MinInt: "-9223372036854775808"} {
		if got := num.IntText(n); got != want {
			t.Errorf("IntText(%d) is %q", n, got)
		}
		if got, e := num.Int(want); got != n || e != api.OK {
			t.Errorf("Int(%q) is %d, %d", want, got, e)
		}
	}
	for _, s := range []string{
		"", "-", "+", "007", "-0", "+1", "+0", "00", "-00", "01", "-01", "--1", "1a", "a", "1_0", "0x1", " 1", "1 ", "1.", "1e1", "１", "\xff", "1\x00",
		"9223372036854775808", "-9223372036854775809", "18446744073709551616", "18446744073709551617", "-18446744073709551615", "99999999999999999999", strings.Repeat("9", 1000), strings.Repeat("0", 1000),
	} {
		if n, e := num.Int(s); n != 0 || e != api.ErrForm {
			t.Errorf("Int(%.50q) is %d, %d", s, n, e)
		}
	}
}

// All short texts are taken, or not, as the chapter says.
func TestIntForms(t *testing.T) {
	right := regexp.MustCompile(`^(0|-?[1-9][0-9]*)$`)
	each(5, []string{"-", "+", "0", "1", "9", "_", "."}, func(s string) {
		n, e := num.Int(s)
		if !right.MatchString(s) {
			if n != 0 || e != api.ErrForm {
				t.Fatalf("Int(%q) is %d, %d", s, n, e)
			}
			return
		}
		if want, _ := strconv.Atoi(s); n != want || e != api.OK || num.IntText(n) != s {
			t.Fatalf("Int(%q) is %d, %d", s, n, e)
		}
	})
}

func TestDuration(t *testing.T) {
	for s, want := range map[string]int{
		"1h30m": 5400000, "90s": 90000, "1d1ms": 86400001, "0": 0, "0s": 0, "0y0w0d0h0m0s0ms": 0, "007s": 7000, "1ms": 1, "1s": 1000, "1m": 60000, "1h": 3600000, "1d": 86400000, "1w": 604800000, "1y": 31536000000,
		"1m1ms": 60001, "1m1s": 61000, "1y1w1d1h1m1s1ms": 32230861001, "100d": 8640000000, "25h61m61s1001ms": 93722001, "999999999999999ms": 999999999999999, "000000000000001y": 31536000000,
		"9007199254740s992ms": 1 << 53, "285616y": 285616 * 31536000000, "0y9007199254740s992ms": 1 << 53,
	} {
		if ms, e := num.Duration(s); ms != want || e != api.OK {
			t.Errorf("Duration(%q) is %d, %d", s, ms, e)
		}
	}
	for _, s := range []string{
		"1m1h", "1m1m", "5", "ms", "-1s", "", "1", "00", "1x", "0s0", "00s0", "1 s", " 1s", "1s ", "+1s", "1.5s", "1e3s", "1S", "1Ms", "1mS", "s", "1s1m", "1ms1s", "1ms1m", "1h1d", "1d1w", "1w1y", "1y1y", "1s1s", "1ms1ms", "1h5", "1ss", "1sm", "1mss", "1us", "1ns", "1min", "١s", "1\xff", "\xff",
		"1234567890123456ms", "0000000000000000s", "9007199254740992ms", "1h1234567890123456ms", strings.Repeat("1", 1000), strings.Repeat("1s", 1000),
		// The form is told ahead of the size.
		"999999999999999y1y", "999999999999999y1", "999999999999999yx", "300000y ", "999999999999999s1m",
	} {
		if ms, e := num.Duration(s); ms != 0 || e != api.ErrForm {
			t.Errorf("Duration(%.50q) is %d, %d", s, ms, e)
		}
	}
	for _, s := range []string{
		"999999999999999y", "300000y", "999999999999999s", "285617y", "9007199254740s993ms", "9007199254741s", "9007199254740s1000ms", "285616y52w999999999999999ms",
		"999999999999999y999999999999999w999999999999999d999999999999999h999999999999999m999999999999999s999999999999999ms", "584942418y", "584942417y0ms", "999999999999999y0ms",
	} {
		if ms, e := num.Duration(s); ms != 0 || e != api.ErrLarge {
			t.Errorf("Duration(%q) is %d, %d", s, ms, e)
		}
	}
}

// partForm is the parts of a duration, in their order.
var partForm = regexp.MustCompile(`^(?:([0-9]{1,15})y)?(?:([0-9]{1,15})w)?(?:([0-9]{1,15})d)?(?:([0-9]{1,15})h)?(?:([0-9]{1,15})m)?(?:([0-9]{1,15})s)?(?:([0-9]{1,15})ms)?$`)

// partSizes is their milliseconds.
var partSizes = []int64{31536000000, 604800000, 86400000, 3600000, 60000, 1000, 1}

// durationByHand sums up what partForm finds.
func durationByHand(s string) (int, api.Errno) {
	parts := partForm.FindStringSubmatch(s)
	switch {
	case s == "0":
		return 0, api.OK
	case s == "" || parts == nil:
		return 0, api.ErrForm
	}
	sum := new(big.Int)
	for i, size := range partSizes {
		count, _ := new(big.Int).SetString("0"+parts[i+1], 10)
		sum.Add(sum, count.Mul(count, big.NewInt(size)))
	}
	if sum.Cmp(big.NewInt(api.MaxTime)) > 0 {
		return 0, api.ErrLarge
	}
	return int(sum.Int64()), api.OK
}

func TestDurationForms(t *testing.T) {
	seen := map[api.Errno]int{}
	try := func(s string) {
		ms, e := num.Duration(s)
		if want, wantE := durationByHand(s); ms != want || e != wantE {
			t.Fatalf("Duration(%q) is %d, %d, want %d, %d", s, ms, e, want, wantE)
		}
		seen[e]++
	}
	each(4, []string{"0", "3", "y", "w", "d", "h", "m", "s", "ms", "285616y", "123456789012345"}, try)
	r := rand.New(rand.NewSource(4))
	for range 20000 {
		var s strings.Builder
		for _, unit := range []string{"y", "w", "d", "h", "m", "s", "ms"} {
			if r.Intn(2) == 0 {
				s.WriteString(strconv.Itoa(r.Intn(1<<r.Intn(50) + 1)))
				s.WriteString(unit)
			}
		}
		try(s.String())
	}
	for _, e := range []api.Errno{api.OK, api.ErrForm, api.ErrLarge} {
		if seen[e] < 100 {
			t.Error(e, "was seen only", seen[e], "times")
		}
	}
}

func TestDurationText(t *testing.T) {
	for ms, want := range map[int]string{
		5400000: "1h30m", 90000: "1m30s", 0: "0s", -1: "-1ms", 604800000: "1w", 31536000000: "1y", 1: "1ms", 999: "999ms", 1000: "1s", 59999: "59s999ms", 60000: "1m", 3600000: "1h", 86400000: "1d", 518400000: "6d", 32230861001: "1y1w1d1h1m1s1ms",
		31535999999: "52w23h59m59s999ms", 364 * 86400000: "52w", 730 * 86400000: "2y", -5400001: "-1h30m1ms", 1 << 53: "285616y21w4d8h59m992ms", -(1 << 53): "-285616y21w4d8h59m992ms",
		math.MaxInt: "292471208y35w2d7h12m55s807ms", math.MinInt: "-292471208y35w2d7h12m55s808ms",
	} {
		if got := num.DurationText(ms); got != want {
			t.Errorf("DurationText(%d) is %q, want %q", ms, got, want)
		}
	}
}

// P3.8: what is written is read back; each part is as great as it can be.
func TestDurationThereAndBack(t *testing.T) {
	r := rand.New(rand.NewSource(5))
	all := []int{0, 1, api.MaxTime, api.MaxTime - 1}
	for _, size := range partSizes {
		all = append(all, int(size)-1, int(size), int(size)+1, 2*int(size))
	}
	for range 20000 {
		all = append(all, r.Intn(1<<r.Intn(54)+1))
	}
	for _, ms := range all {
		s := num.DurationText(ms)
		if got, e := num.Duration(s); got != ms || e != api.OK {
			t.Fatalf("Duration(%q) is %d, %d, want %d", s, got, e, ms)
		}
		left := int64(ms)
		for i, part := range partForm.FindStringSubmatch(s)[1:] {
			if count, _ := strconv.ParseInt("0"+part, 10, 64); count != left/partSizes[i] || strings.HasPrefix(part, "0") && ms != 0 {
				t.Fatalf("%d is %q", ms, s)
			}
			left %= partSizes[i]
		}
		if ms > 0 && num.DurationText(-ms) != "-"+s {
			t.Fatalf("%d is %q", -ms, num.DurationText(-ms))
		}
	}
	if _, e := num.Duration(num.DurationText(api.MaxTime + 1)); e != api.ErrLarge {
		t.Error("one millisecond more than MaxTime:", e)
	}
}

func TestSeconds(t *testing.T) {
	for ms, want := range map[int]string{
		1500: "1.5", -250: "-0.25", 3000: "3", 0: "0", 1: "0.001", -1: "-0.001", 10: "0.01", 100: "0.1", 110: "0.11", 101: "0.101", 999: "0.999", 1000: "1", 1001: "1.001", -1000: "-1", 100000: "100", 1050: "1.05", 1005: "1.005", -1234567: "-1234.567",
		1 << 53: "9007199254740.992", math.MaxInt: "9223372036854775.807", math.MinInt: "-9223372036854775.808",
	} {
		if got := num.Seconds(ms); got != want {
			t.Errorf("Seconds(%d) is %q, want %q", ms, got, want)
		}
	}
	for ms := -3000; ms <= 3000; ms++ {
		if want := strconv.FormatFloat(float64(ms)/1000, 'f', -1, 64); num.Seconds(ms) != want {
			t.Fatalf("Seconds(%d) is %q, want %q", ms, num.Seconds(ms), want)
		}
	}
}
