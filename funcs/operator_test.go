package funcs_test

import (
	"math"
	"math/rand"
	"strings"
	"testing"

	"vigil/funcs"
)

// notSigns is what is no sign of Arith, or of Holds.
var notSigns = []string{"", "^", "**", "//", "mod", "atan2", "and", "or", "unless", "=", "=~", "!", "<>", "=<", "=>", "<<", "===", "+ ", " +", "%%", "\xff", "plus"}

// P14.9: arithmetic of usual numbers and of odd ones.
func TestArith(t *testing.T) {
	for _, x := range []struct{ op, rows string }{
		{"+", "1,2=3 -1,1=0 0,-0=0 -0,-0=-0 max,max=inf -max,-max=-inf inf,-inf=nan inf,inf=inf nan,1=nan 1,nan=nan stale,0=nan 0,-stale=nan min,min=1e-323 1e16,1=1e16 0.1,0.2=0.30000000000000004"},
		{"-", "1,2=-1 1,1=0 0,0=0 -0,0=-0 0,-0=0 max,-max=inf inf,inf=nan inf,-inf=inf nan,1=nan 1,nan=nan 0,stale=nan 0,-stale=nan -stale,0=nan min,min=0"},
		{"*", "2,3=6 -2,3=-6 0,-1=-0 -0,-1=0 max,2=inf -max,2=-inf inf,0=nan inf,-1=-inf nan,0=nan 1,stale=nan -1,-stale=nan -1,stale=nan min,0.5=0 min,-0.5=-0 0.1,3=0.30000000000000004"},
		{"/", "6,3=2 1,3=0.3333333333333333 1,0=inf 1,-0=-inf -1,0=-inf 0,0=nan -0,5=-0 0,-5=-0 inf,inf=nan 5,inf=0 5,-inf=-0 inf,5=inf nan,1=nan 1,nan=nan stale,1=nan stale,-1=nan max,0.5=inf min,2=0 1,min=inf"},
		{"%", "5,3=2 -5,3=-2 5,-3=2 -5,-3=-2 6,3=0 -6,3=-0 0,3=0 -0,3=-0 5.5,2=1.5 5,0=nan 5,-0=nan 0,0=nan inf,3=nan 5,inf=5 -5,inf=-5 5,-inf=5 nan,3=nan 5,nan=nan stale,3=nan 5,stale=nan max,min=0 max,3=2 min,max=min 1,0.1=0.09999999999999995 inf,inf=nan"},
	} {
		for _, row := range strings.Fields(x.rows) {
			pair, want, _ := strings.Cut(row, "=")
			l := list(strings.ReplaceAll(pair, ",", " "))
			wantFloat(t, funcs.Arith(x.op, l[0], l[1]), value(want), l[0], x.op, l[1])
		}
	}
	for _, op := range append([]string{"==", "!=", "<", "<=", ">", ">="}, notSigns...) {
		for _, a := range odd {
			wantFloat(t, funcs.Arith(op, a, 2), nan, a, op, 2)
		}
	}
}

// P14.9, R6: all odd numbers, and many others.
func TestArithModel(t *testing.T) {
	r := rand.New(rand.NewSource(149))
	model := map[string]func(a, b float64) float64{"+": plus, "-": less, "*": times, "/": by, "%": math.Mod}
	check := func(a, b float64) {
		for op, reckoned := range model {
			wantFloat(t, funcs.Arith(op, a, b), reckoned(a, b), a, op, b)
		}
	}
	for _, a := range odd {
		for _, b := range odd {
			check(a, b)
		}
	}
	for range 3000 {
		check(someFloat(r), someFloat(r))
		check(tameFloat(r), tameFloat(r))
	}
}

// P14.9: comparisons; each says of two numbers what stands behind it: of a lesser and a greater one, of like ones, of a greater and a lesser one, and of those that a NaN is among.
func TestHolds(t *testing.T) {
	pairs := [4][][2]float64{
		{{1, 2}, {-1, 0}, {-1, negZero}, {0, least}, {-least, negZero}, {negInf, inf}, {negInf, -greatest}, {greatest, inf}, {1, math.Nextafter(1, 2)}},
		{{1, 1}, {0, 0}, {0, negZero}, {negZero, 0}, {inf, inf}, {negInf, negInf}, {greatest, greatest}},
		{{2, 1}, {0, -1}, {inf, greatest}, {inf, negInf}, {least, 0}, {0, -least}},
		{{nan, 1}, {1, nan}, {nan, nan}, {stale, stale}, {nan, inf}, {negInf, nan}, {stale, 0}},
	}
	for op, want := range map[string][4]bool{
		"==": {false, true, false, false},
		"!=": {true, false, true, true},
		"<":  {true, false, false, false},
		"<=": {true, true, false, false},
		">":  {false, false, true, false},
		">=": {false, true, true, false},
	} {
		for i, l := range pairs {
			for _, x := range l {
				if got := funcs.Holds(op, x[0], x[1]); got != want[i] {
					t.Error(x[0], op, x[1], "is", got)
				}
			}
		}
	}
	for _, op := range append([]string{"+", "-", "*", "/", "%"}, notSigns...) {
		for _, l := range pairs {
			for _, x := range l {
				if funcs.Holds(op, x[0], x[1]) {
					t.Errorf("%v %q %v holds", x[0], op, x[1])
				}
			}
		}
	}
}
