package funcs_test

import (
	"fmt"
	"math"
	"math/big"
	"math/rand"
	"strconv"
	"strings"
	"testing"

	"vigil/api"
)

var (
	nan      = math.NaN()
	inf      = math.Inf(1)
	negInf   = math.Inf(-1)
	negZero  = math.Copysign(0, -1)
	least    = math.SmallestNonzeroFloat64
	greatest = math.MaxFloat64
	stale    = math.Float64frombits(api.StaleBits)
	negStale = math.Float64frombits(api.StaleBits | 1<<63)
)

// odd is numbers by which a sum, a product or a comparison goes another way than by usual ones.
var odd = []float64{
	nan, stale, negStale, inf, negInf, 0, negZero, least, -least, greatest, -greatest, 1, -1, 0.5, -0.5, 1.5, 2, 2.5, -2.5, 3, 10, -10, 0.1, 1e16, -1e16, 1e308, -1e308, 1e200, -1e-200, 1e-308, 1 << 52, 1<<53 - 1, -1 << 53, 4503599627370497, 0.49999999999999994,
	math.Float64frombits(0x7ff8000000000003), math.Float64frombits(0xfff8000000000000), math.Float64frombits(0x7fffffffffffffff),
}

// alike tells whether got is want: any NaN is as good as another, but for the mark of an end, which none of these functions may answer.
func alike(got, want float64) bool {
	if math.IsNaN(want) {
		return math.IsNaN(got) && math.Float64bits(got) != api.StaleBits
	}
	return math.Float64bits(got) == math.Float64bits(want)
}

func wantFloat(t *testing.T, got, want float64, what ...any) {
	if !alike(got, want) {
		t.Helper()
		t.Errorf("%s is %v (%x); want %v (%x)", strings.TrimSpace(fmt.Sprintln(what...)), got, math.Float64bits(got), want, math.Float64bits(want))
	}
}

// wantNone says that an answer is 0 and false.
func wantNone(t *testing.T, got float64, ok bool, what ...any) {
	t.Helper()
	if ok || math.Float64bits(got) != 0 {
		t.Errorf("%s is %v, %v; want 0, false", strings.TrimSpace(fmt.Sprintln(what...)), got, ok)
	}
}

// value is the number of a text, among them the marks of ends.
func value(s string) float64 {
	switch s {
	case "stale":
		return stale
	case "-stale":
		return negStale
	case "max":
		return greatest
	case "-max":
		return -greatest
	case "min":
		return least
	case "-min":
		return -least
	}
	v, err := strconv.ParseFloat(s, 64)
	if err != nil {
		panic(s)
	}
	return v
}

// list is the numbers of a text, with blanks between.
func list(s string) []float64 {
	var out []float64
	for _, word := range strings.Fields(s) {
		out = append(out, value(word))
	}
	return out
}

// samples is those of a text: a time and a value each, a colon between.
func samples(s string) []api.Sample {
	var out []api.Sample
	for _, word := range strings.Fields(s) {
		at, v, found := strings.Cut(word, ":")
		n, err := strconv.Atoi(at)
		if !found || err != nil {
			panic(word)
		}
		out = append(out, api.Sample{T: n, V: value(v)})
	}
	return out
}

// roomy is l with spare room that holds something.
func roomy[T any](spare T, l []T) []T {
	return append(append([]T(nil), l...), spare, spare)[:len(l)]
}

// someFloat is an odd number, or one of few, or one of any bits.
func someFloat(r *rand.Rand) float64 {
	switch r.Intn(5) {
	case 0:
		return odd[r.Intn(len(odd))]
	case 1:
		return float64(r.Intn(5))
	case 2:
		return float64(r.Intn(2000)-1000) / 8
	case 3:
		return r.NormFloat64() * math.Pow(10, float64(r.Intn(20)-10))
	}
	return math.Float64frombits(r.Uint64())
}

// tameFloat is a number that is neither so great nor so small that it hides others.
func tameFloat(r *rand.Rand) float64 {
	return math.Round(r.NormFloat64()*1000) / float64(1+r.Intn(9))
}

func floats(r *rand.Rand, n int) []float64 {
	draw := tameFloat
	if r.Intn(2) == 0 {
		draw = someFloat
	}
	var out []float64
	for range n {
		out = append(out, draw(r))
	}
	return out
}

// The steps of reckoning, each rounded by whole numbers without an end, so that nothing can be left unrounded or come in another order.

// exact tells whether a number is finite and not 0: of others the language's own operators say what there is to say.
func exact(v float64) bool { return v != 0 && !math.IsNaN(v) && !math.IsInf(v, 0) }

func rat(v float64) *big.Rat { return new(big.Rat).SetFloat64(v) }

// rounded is the float nearest to x, a nought of that sign if that is 0.
func rounded(x *big.Rat, negative bool) float64 {
	v, _ := x.Float64()
	if v == 0 && negative {
		return negZero
	}
	return v
}

func plus(a, b float64) float64 {
	if !exact(a) || !exact(b) {
		return a + b
	}
	return rounded(new(big.Rat).Add(rat(a), rat(b)), false)
}

func less(a, b float64) float64 { return plus(a, -b) }

func times(a, b float64) float64 {
	if !exact(a) || !exact(b) {
		return a * b
	}
	return rounded(new(big.Rat).Mul(rat(a), rat(b)), (a < 0) != (b < 0))
}

func by(a, b float64) float64 {
	if !exact(a) || !exact(b) {
		return a / b
	}
	return rounded(new(big.Rat).Quo(rat(a), rat(b)), (a < 0) != (b < 0))
}
