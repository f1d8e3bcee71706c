package num_test

import (
	"fmt"
	"math"
	"math/big"
	"math/rand"
	"strconv"
	"strings"
	"testing"

	"vigil/api"
	"vigil/num"
)

var minusZero = math.Copysign(0, -1)

// floats is floats of all kinds, none of them a NaN: about all powers of two and ten, whole ones, those next to 0, short ones and any bits.
func floats() []float64 {
	out := []float64{0, math.Inf(1), math.MaxFloat64, 0x1p-1022, 0x0.fffffffffffffp-1022, 123456789, 123.456, 0.00001}
	about := func(v float64) {
		out = append(out, v, math.Nextafter(v, 0), math.Nextafter(v, math.Inf(1)))
	}
	for e := -1074; e < 1024; e++ {
		about(math.Ldexp(1, e))
	}
	for e := -323; e <= 308; e++ {
		v, _ := strconv.ParseFloat("1e"+strconv.Itoa(e), 64)
		about(v)
	}
	for bits := range uint64(300) {
		out = append(out, math.Float64frombits(bits))
	}
	r := rand.New(rand.NewSource(1))
	for range 1500 {
		out = append(out, math.Float64frombits(r.Uint64()>>1), math.Float64frombits(r.Uint64()>>r.Intn(64)))
		out = append(out, math.Ldexp(float64(r.Intn(1<<r.Intn(20)+1)), -r.Intn(80)), float64(r.Uint64()>>r.Intn(64)), float64(r.Intn(100000))/1000)
	}
	for _, v := range out {
		out = append(out, -v)
	}
	var rest []float64
	for _, v := range out {
		if v == v {
			rest = append(rest, v)
		}
	}
	return rest
}

// tens is ten to the n, 1 for an n below 0.
func tens(n int) *big.Int {
	return new(big.Int).Exp(big.NewInt(10), big.NewInt(int64(max(n, 0))), nil)
}

// reads tells whether c times ten to the n is read as v.
func reads(c *big.Int, n int, v float64) bool {
	got, _ := strconv.ParseFloat(c.String()+"e"+strconv.Itoa(n), 64)
	return got == v
}

// digitsByHand tries all numbers of few digits about v, which is above 0, as the chapter says it.
func digitsByHand(v float64) (string, int) {
	exact := new(big.Rat).SetFloat64(v)
	exp := int(math.Floor(math.Log10(v))) - 1
	for exact.Cmp(new(big.Rat).SetFrac(tens(exp), tens(-exp))) >= 0 {
		exp++
	}
	for n := 1; ; n++ {
		// The value is above through below, in steps of the n-th digit.
		above, below := new(big.Int).Mul(exact.Num(), tens(n-exp)), new(big.Int).Mul(exact.Denom(), tens(exp-n))
		floor := new(big.Int).Quo(above, below)
		var best, bestFar *big.Int
		for more := int64(-1); more <= 2; more++ {
			c := new(big.Int).Add(floor, big.NewInt(more))
			if c.Sign() <= 0 || !reads(c, exp-n, v) {
				continue
			}
			far := new(big.Int).Mul(c, below)
			far.Abs(far.Sub(far, above))
			if best == nil || far.Cmp(bestFar) < 0 || far.Cmp(bestFar) == 0 && c.Bit(0) == 0 {
				best, bestFar = c, far
			}
		}
		if best != nil {
			text := best.String()
			return strings.TrimRight(text, "0"), exp + len(text) - n
		}
	}
}

func TestDigits(t *testing.T) {
	for _, x := range []struct {
		v      float64
		digits string
		exp    int
		neg    bool
	}{
		{0.25, "25", 0, false},
		{-0.25, "25", 0, true},
		{1, "1", 1, false},
		{100, "1", 3, false},
		{-123.456, "123456", 3, true},
		{0.001, "1", -2, false},
		{5e-324, "5", -323, false},
		{1e-323, "1", -322, false},
		{1e23, "1", 24, false},
		{9.5e22, "95", 23, false},
		{math.MaxFloat64, "17976931348623157", 309, false},
		{0x1p-44, "5684341886080802", -13, false}, // ..801 is nearer, but is read as the float below
		{0x1p-1074, "5", -323, false},
		{3 * 0x1p-24, "17881393432617188", -6, false}, // as near as ..187
		{9007199254740993, "9007199254740992", 16, false},
		{0, "", 0, false},
		{minusZero, "", 0, true},
		{math.Inf(1), "", 0, false},
		{math.Inf(-1), "", 0, true},
		{math.NaN(), "", 0, false},
		{math.Float64frombits(0xfff8000000000001), "", 0, true},
		{math.Float64frombits(api.StaleBits), "", 0, false},
		{math.Float64frombits(api.StaleBits | 1<<63), "", 0, true},
	} {
		if digits, exp, neg := num.Digits(x.v); digits != x.digits || exp != x.exp || neg != x.neg {
			t.Errorf("Digits(%v) is %q, %d, %v", x.v, digits, exp, neg)
		}
	}
}

// Every float's digits are those that trying finds.
func TestDigitsByHand(t *testing.T) {
	for _, v := range floats() {
		if math.Signbit(v) || v == 0 || math.IsInf(v, 0) {
			continue
		}
		want, wantExp := digitsByHand(v)
		if digits, exp, neg := num.Digits(v); digits != want || exp != wantExp || neg {
			t.Fatalf("Digits(%v) is %q, %d, %v, want %q, %d", v, digits, exp, neg, want, wantExp)
		}
		if digits, exp, neg := num.Digits(-v); digits != want || exp != wantExp || !neg {
			t.Fatalf("Digits(%v) is %q, %d, %v, want %q, %d", -v, digits, exp, neg, want, wantExp)
		}
	}
}

// Of two that are as near the one with the even last digit is told, be it the lower or the upper one.
func TestDigitsTies(t *testing.T) {
	var ties [2]int
	for count := range uint64(1 << 14) {
		for _, e := range []int{-22, -23, -24, -25, -26} {
			v := math.Ldexp(float64(2*count+1), e)
			digits, _, _ := num.Digits(v)
			whole := strconv.FormatFloat(v, 'e', 60, 64)
			whole = strings.TrimRight(strings.Replace(whole[:strings.IndexByte(whole, 'e')], ".", "", 1), "0")
			if len(whole) != len(digits)+1 || whole[len(digits)] != '5' {
				continue
			}
			if want, _ := digitsByHand(v); digits != want {
				t.Fatalf("Digits(%v) is %q, want %q", v, digits, want)
			}
			if whole[:len(digits)] == digits {
				ties[0]++
			} else {
				ties[1]++
			}
		}
	}
	if ties[0] == 0 || ties[1] == 0 {
		t.Error("no tie was seen:", ties)
	}
}

func TestText(t *testing.T) {
	for _, x := range []struct {
		v    float64
		want string
	}{
		{1, "1"}, {-1.5, "-1.5"}, {0.1, "0.1"}, {100, "100"}, {10.5, "10.5"}, {123456789, "123456789"}, {123.456, "123.456"},
		{1e20, "100000000000000000000"}, {-1.5e20, "-150000000000000000000"}, {1.2345e20, "123450000000000000000"},
		{999999999999999868928, "999999999999999900000"},
		{1e21, "1e+21"}, {1.5e21, "1.5e+21"}, {-1e22, "-1e+22"}, {1e22, "1e+22"}, {1e99, "1e+99"}, {1e100, "1e+100"}, {-1.25e300, "-1.25e+300"},
		{1e-6, "0.000001"}, {0.00001, "0.00001"}, {1.25e-6, "0.00000125"}, {-9.75e-6, "-0.00000975"},
		{1e-7, "1e-07"}, {9.75e-7, "9.75e-07"}, {-1e-7, "-1e-07"}, {1e-9, "1e-09"}, {1e-10, "1e-10"}, {1e-99, "1e-99"}, {1e-100, "1e-100"},
		{5e-324, "5e-324"}, {-5e-324, "-5e-324"}, {2.2250738585072014e-308, "2.2250738585072014e-308"},
		{math.MaxFloat64, "1.7976931348623157e+308"}, {-math.MaxFloat64, "-1.7976931348623157e+308"},
		{0, "0"}, {minusZero, "-0"}, {math.Inf(1), "+Inf"}, {math.Inf(-1), "-Inf"},
		{math.NaN(), "NaN"}, {math.Float64frombits(api.StaleBits), "NaN"}, {math.Float64frombits(0x7ff0000000000001), "NaN"},
		{math.Float64frombits(0xfff0000000000001), "NaN"}, {math.Float64frombits(math.MaxUint64), "NaN"},
		{1 << 53, "9007199254740992"}, {0.5, "0.5"}, {12.5, "12.5"}, {0.0625, "0.0625"},
	} {
		if got := num.Text(x.v); got != x.want {
			t.Errorf("Text is %q, want %q", got, x.want)
		}
	}
}

// textByHand lays out a float's digits place by place.
func textByHand(digits string, exp int) string {
	var out strings.Builder
	if exp < -5 || exp > 21 {
		for i, digit := range digits {
			if i == 1 {
				out.WriteByte('.')
			}
			out.WriteRune(digit)
		}
		return out.String() + fmt.Sprintf("e%+03d", exp-1)
	}
	for place := max(exp, 1) - 1; place >= min(exp-len(digits), 0); place-- {
		if place == -1 {
			out.WriteByte('.')
		}
		if at := exp - 1 - place; 0 <= at && at < len(digits) {
			out.WriteByte(digits[at])
		} else {
			out.WriteByte('0')
		}
	}
	return out.String()
}

func TestTextLayout(t *testing.T) {
	for _, v := range floats() {
		digits, exp, neg := num.Digits(v)
		if digits == "" {
			continue
		}
		want := textByHand(digits, exp)
		if neg {
			want = "-" + want
		}
		if got := num.Text(v); got != want {
			t.Fatalf("Text is %q, want %q", got, want)
		}
	}
}

// P3.8: what is written is read back bit by bit.
func TestThereAndBack(t *testing.T) {
	for _, v := range floats() {
		w, e := num.Parse(num.Text(v))
		if e != api.OK || math.Float64bits(v) != math.Float64bits(w) {
			t.Fatalf("%v is read back as %v, %d", v, w, e)
		}
	}
}

func TestSame(t *testing.T) {
	stale := math.Float64frombits(api.StaleBits)
	for _, x := range []struct {
		a, b float64
		want bool
	}{
		{1, 1, true}, {1, 2, false}, {0, 0, true}, {0, minusZero, false}, {minusZero, minusZero, true}, {1, 1.0000000000000002, false},
		{math.NaN(), math.NaN(), true}, {stale, stale, true}, {stale, math.NaN(), false}, {math.NaN(), -math.NaN(), false},
		{math.Inf(1), math.Inf(1), true}, {math.Inf(1), math.Inf(-1), false}, {5e-324, 0, false},
	} {
		if num.Same(x.a, x.b) != x.want || num.Same(x.b, x.a) != x.want {
			t.Errorf("Same(%v, %v) is %v", x.a, x.b, !x.want)
		}
	}
}

func TestNext(t *testing.T) {
	for _, x := range []struct{ v, want float64 }{
		{0, 5e-324}, {minusZero, 5e-324}, {-5e-324, minusZero}, {5e-324, 1e-323}, {1, 1.0000000000000002}, {-1, -0.9999999999999999}, {1.9999999999999998, 2},
		{-2, -1.9999999999999998}, {0x0.fffffffffffffp-1022, 0x1p-1022}, {-0x1p-1022, -0x0.fffffffffffffp-1022},
		{math.MaxFloat64, math.Inf(1)}, {math.Inf(1), math.Inf(1)}, {math.Inf(-1), -math.MaxFloat64},
	} {
		if got := num.Next(x.v); math.Float64bits(got) != math.Float64bits(x.want) {
			t.Errorf("Next(%v) is %v", x.v, got)
		}
	}
	for _, bits := range []uint64{0x7ff8000000000001, 0xfff8000000000001, api.StaleBits, api.StaleBits | 1<<63, 0x7ff0000000000001, 0x7fffffffffffffff, math.MaxUint64} {
		if got := math.Float64bits(num.Next(math.Float64frombits(bits))); got != bits {
			t.Errorf("Next of the NaN %x is %x", bits, got)
		}
	}
	for _, v := range floats() {
		if got := num.Next(v); got != math.Nextafter(v, math.Inf(1)) {
			t.Fatalf("Next(%v) is %v", v, got)
		}
	}
}
