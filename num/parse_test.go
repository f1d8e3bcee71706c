package num_test

import (
	"math"
	"math/big"
	"math/rand"
	"regexp"
	"strconv"
	"strings"
	"testing"

	"vigil/api"
	"vigil/num"
)

func TestParse(t *testing.T) {
	zeros := strings.Repeat("0", 380)
	for _, x := range []struct {
		s    string
		want float64
	}{
		{"1e999", math.Inf(1)}, {"-1e999", math.Inf(-1)}, {"-1e-999", minusZero}, {"1e-999", 0}, {".5", 0.5}, {"5.", 5}, {"-.5", -0.5}, {"+5.e1", 50},
		{"+Inf", math.Inf(1)}, {"inf", math.Inf(1)}, {"-iNf", math.Inf(-1)}, {"infinity", math.Inf(1)}, {"-INFINITY", math.Inf(-1)}, {"+InFiNiTy", math.Inf(1)},
		{"0", 0}, {"-0", minusZero}, {"+0", 0}, {"-.0e5", minusZero}, {"0e99999999999999999999", 0}, {"-0e99999999999999999999", minusZero}, {"000", 0},
		{"1e99999999999999999999", math.Inf(1)}, {"1e-99999999999999999999", 0}, {"1e9223372036854775808", math.Inf(1)}, {"1e18446744073709551617", math.Inf(1)},
		{"1e" + zeros + "2", 100}, {"1e-" + zeros + "2", 0.01}, {"1E+2", 100}, {"1e-2", 0.01}, {"00012", 12}, {"1.50e3", 1500}, {"00.0012E03", 1.2},
		{"1" + zeros + "e-380", 1}, {"0." + zeros + "1e381", 1}, {"1" + zeros + "e-690", 1e-310}, {"0." + zeros + "1e690", math.Inf(1)}, {"0." + zeros + "1e688", 1e307}, {"1" + zeros + "e-705", 0},
		{"9007199254740993", 9007199254740992}, {"9007199254740993.0", 9007199254740992}, {"9007199254740993." + zeros + "1", 9007199254740994}, {"9007199254740992.99999", 9007199254740992}, {"9007199254740995", 9007199254740996},
		{"2.4703282292062327e-324", 0}, {"2.4703282292062328e-324", 5e-324}, {"-2.4703282292062327e-324", minusZero}, {"5e-324", 5e-324}, {"1e-324", 0}, {"9.9e-325", 0}, {"3e-324", 5e-324},
		{"2.2250738585072011e-308", 2.225073858507201e-308}, {"2.2250738585072012e-308", 0x1p-1022},
		{"1.7976931348623158e308", math.MaxFloat64}, {"1.797693134862315808e308", math.Inf(1)}, {"-1.797693134862315808e308", math.Inf(-1)}, {"1e309", math.Inf(1)}, {"1e308", 1e308}, {"9.99e309", math.Inf(1)}, {"9.99e308", math.Inf(1)},
		{"17976931348623157" + strings.Repeat("0", 292), math.MaxFloat64},
		{strings.Repeat("1", 400), math.Inf(1)}, {strings.Repeat("0", 400), 0}, {strings.Repeat("0", 398) + "12", 12}, {"." + strings.Repeat("9", 399), 1}, {"-" + strings.Repeat("0", 398) + "7", -7},
	} {
		if got, e := num.Parse(x.s); e != api.OK || math.Float64bits(got) != math.Float64bits(x.want) {
			t.Errorf("Parse(%q) is %v, %d", x.s, got, e)
		}
	}
}

func TestParseNaN(t *testing.T) {
	for _, s := range []string{"nan", "nAn", "NaN", "NAN", "+nan", "-nan", "-NaN"} {
		if v, e := num.Parse(s); e != api.OK || math.Float64bits(v) != 0x7ff8000000000001 {
			t.Errorf("Parse(%q) is %x, %d", s, math.Float64bits(v), e)
		}
	}
}

func TestParseWrong(t *testing.T) {
	for _, s := range []string{
		"", ".", "1e", "0x1", "1_0", " 1", "--1", "1e+", "1e-", "e5", ".e5", "+", "-", "+-1", "1.2.3", "1..2", "in", "infi", "infinit", "infinityy", "inf1", "1inf", "na", "nann", "nan(1)", "- 1", "1 ", "1\n", "1,5",
		"1e5.", "1e.5", "1e5e5", "1ee5", "1e++5", "1e5 ", "1f", "1p5", "0x1p5", "0b1", "0o7", "1e5x", "+.", "-.e1", "１", "ınf", "İnf", "1\x00", "\xff", "1\xff", "∞", "1e\xff",
		strings.Repeat("1", 401), strings.Repeat("0", 401), "inf" + strings.Repeat(" ", 400), "+" + strings.Repeat("1", 400), strings.Repeat("x", 1<<20),
	} {
		if v, e := num.Parse(s); e != api.ErrForm || math.Float64bits(v) != 0 {
			t.Errorf("Parse(%.50q) is %v, %d", s, v, e)
		}
	}
}

// each tells all texts of at most size pieces.
func each(size int, pieces []string, tell func(string)) {
	var grow func(s string, left int)
	grow = func(s string, left int) {
		tell(s)
		if left == 0 {
			return
		}
		for _, p := range pieces {
			grow(s+p, left-1)
		}
	}
	grow("", size)
}

// All short texts are taken, or not, as the chapter's words say, and read as the float nearest to them.
func TestParseForms(t *testing.T) {
	right := regexp.MustCompile(`^[+-]?([iI][nN][fF]|[0-9]+\.?[0-9]*([eE][+-]?[0-9]+)?|\.[0-9]+([eE][+-]?[0-9]+)?)$`)
	taken := 0
	each(6, []string{"+", "-", ".", "0", "7", "e", "E", "inF", "_"}, func(s string) {
		v, e := num.Parse(s)
		if !right.MatchString(s) {
			if e != api.ErrForm || v != 0 {
				t.Fatalf("Parse(%q) is %v, %d", s, v, e)
			}
			return
		}
		taken++
		want, _ := strconv.ParseFloat(s, 64)
		if e != api.OK || math.Float64bits(v) != math.Float64bits(want) {
			t.Fatalf("Parse(%q) is %v, %d", s, v, e)
		}
	})
	if taken < 1000 {
		t.Error("only", taken, "were right")
	}
}

// The number in the midst between two floats is read as the even one; a little more or less as the one that is nearer.
func TestParseHalves(t *testing.T) {
	seen := 0
	for _, v := range floats() {
		above := math.Nextafter(v, math.Inf(1))
		if math.Signbit(v) || math.IsInf(above, 1) {
			continue
		}
		count, exp := half(v, above)
		if len(count.String()) > 380 {
			continue
		}
		seen++
		even := v
		if math.Float64bits(v)%2 == 1 {
			even = above
		}
		more, less := new(big.Int).Add(count, big.NewInt(1)), new(big.Int).Sub(count, big.NewInt(1))
		for c, want := range map[*big.Int]float64{count: even, more: above, less: v} {
			s := c.String() + "e" + strconv.Itoa(exp)
			if got, e := num.Parse(s); e != api.OK || got != want {
				t.Fatalf("Parse(%q) is %v, %d, want %v", s, got, e, want)
			}
		}
	}
	if seen < 3000 {
		t.Error("only", seen, "halves were short enough")
	}
}

// half is the number in the midst of two, as a count of many digits and a power of ten.
func half(a, b float64) (count *big.Int, exp int) {
	mid := new(big.Rat).Add(new(big.Rat).SetFloat64(a), new(big.Rat).SetFloat64(b))
	mid.Quo(mid, big.NewRat(2, 1))
	// The denominator is a power of two, by which as great a power of ten can be divided.
	up := mid.Denom().BitLen() - 1 + 30
	mid.Mul(mid, new(big.Rat).SetInt(tens(up)))
	return mid.Num(), -up
}

// Half a step beyond the greatest float all is infinite, and just ahead of it nothing.
func TestParseGreatest(t *testing.T) {
	edge := new(big.Int).Sub(new(big.Int).Lsh(big.NewInt(1), 1024), new(big.Int).Lsh(big.NewInt(1), 970))
	for _, x := range []struct {
		s    string
		want float64
	}{
		{edge.String(), math.Inf(1)}, {edge.String() + ".00", math.Inf(1)}, {edge.Sub(edge, big.NewInt(1)).String(), math.MaxFloat64}, {edge.String() + ".99999", math.MaxFloat64},
	} {
		if got, e := num.Parse(x.s); e != api.OK || got != x.want {
			t.Errorf("Parse(%q) is %v, %d", x.s, got, e)
		}
	}
}

// Numbers of any digits and powers are read as the nearest float.
func TestParseAny(t *testing.T) {
	r := rand.New(rand.NewSource(2))
	for range 5000 {
		digits := make([]byte, 1+r.Intn(1+r.Intn(380)))
		for i := range digits {
			digits[i] = byte('0' + r.Intn(10))
		}
		point := r.Intn(len(digits) + 1)
		s := string(digits[:point]) + "." + string(digits[point:]) + "e" + strconv.Itoa(r.Intn(800)-400)
		want, _ := strconv.ParseFloat(s, 64)
		if got, e := num.Parse(s); e != api.OK || math.Float64bits(got) != math.Float64bits(want) {
			t.Fatalf("Parse(%q) is %v, %d, want %v", s, got, e, want)
		}
	}
	for _, v := range floats() {
		for _, s := range []string{strconv.FormatFloat(v, 'e', r.Intn(25), 64), strconv.FormatFloat(v, 'g', -1, 64), strconv.FormatFloat(v, 'e', 300, 64)} {
			want, _ := strconv.ParseFloat(s, 64)
			if got, e := num.Parse(s); e != api.OK || math.Float64bits(got) != math.Float64bits(want) {
				t.Fatalf("Parse(%q) is %v, %d, want %v", s, got, e, want)
			}
		}
	}
}
