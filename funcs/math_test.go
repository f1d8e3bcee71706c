package funcs_test

import (
	"math"
	"math/rand"
	"slices"
	"strings"
	"testing"

	"vigil/funcs"
)

// P14.2: each function, of usual numbers and of odd ones.
func TestMath(t *testing.T) {
	for _, x := range []struct{ name, rows string }{
		{"abs", "-1.5=1.5 1.5=1.5 0=0 -0=0 -inf=inf inf=inf nan=nan stale=nan -stale=nan -max=max -min=min"},
		{"ceil", "1.2=2 -1.2=-1 2=2 -0.5=-0 0=0 -0=-0 min=1 -min=-0 max=max -max=-max inf=inf -inf=-inf nan=nan stale=nan -stale=nan 4503599627370495.5=4503599627370496"},
		{"floor", "1.8=1 -1.2=-2 2=2 0.5=0 0=0 -0=-0 min=0 -min=-1 max=max -max=-max inf=inf -inf=-inf nan=nan stale=nan -stale=nan -4503599627370495.5=-4503599627370496"},
		{"sqrt", "9=3 2=1.4142135623730951 0.25=0.5 0=0 -0=-0 -1=nan -min=nan min=2.2227587494850775e-162 max=1.3407807929942596e+154 inf=inf -inf=nan nan=nan stale=nan"},
		{"sgn", "-7=-1 7=1 0=0 -0=-0 min=1 -min=-1 max=1 inf=1 -inf=-1 nan=nan stale=nan -stale=nan"},
		{"round", "2.5=3 -2.5=-2 0.5=1 -0.5=0 1.5=2 -1.5=-1 2.4=2 -2.4=-2 2.6=3 -2.6=-3 3=3 -3=-3 0=0 -0=0 min=0 -min=0 max=max -max=-max inf=inf -inf=-inf nan=nan stale=nan -stale=nan"},
		// The sum with 0.5 is rounded ahead of its floor.
		{"round", "0.49999999999999994=1 -0.49999999999999994=0 4503599627370497=4503599627370498 4503599627370495.5=4503599627370496 9007199254740991=9007199254740992"},
		{"round", "2.5,1=3 -2.5,1=-2 0.49999999999999994,1=1 max,1=max -0,1=0 2.5,-1=2 -2.5,-1=-3"},
		{"round", "2.34,0.1=2.3 2.36,0.1=2.4 0.15,0.1=0.2 -0.15,0.1=-0.1 7,5=5 8,5=10 7.5,5=10 -7.5,5=-5 7.5,-5=5 -7.5,-5=-10 12,-5=10 1.25,0.5=1.5 1234,100=1200 -0,5=0 0,-5=-0"},
		{"round", "5,0=nan 0,0=nan -5,0=nan 5,-0=nan 5,nan=nan nan,5=nan nan,nan=nan 5,stale=nan stale,5=nan 5,inf=nan 5,-inf=nan inf,5=inf -inf,5=-inf inf,-5=inf -inf,-5=-inf inf,0=nan inf,inf=nan"},
		// The product is infinite, or the number that 1 is divided by so small that its turn is.
		{"round", "1e308,1e-10=inf -1e308,1e-10=-inf 1e308,-1e-10=inf 1,min=nan 0,min=nan max,0.5=inf max,2=max max,max=inf -max,max=-inf 1,max=0"},
		{"clamp", "5,1,3=3 0,1,3=1 2,1,3=2 1,1,3=1 3,1,3=3 -inf,1,3=1 inf,1,3=3 max,-max,1=1 -max,-1,max=-1"},
		{"clamp", "5,3,1=nan 2,3,1=nan nan,3,1=nan 0,min,-min=nan 5,inf,-inf=nan 0,1,0.9999999999999999=nan"},
		{"clamp", "5,nan,3=nan 5,1,nan=nan 2,nan,nan=nan 2,stale,3=nan 2,1,-stale=nan nan,nan,3=nan nan,1,3=nan stale,1,3=nan -stale,1,3=nan nan,1,1=nan"},
		{"clamp", "5,2,2=2 1,2,2=2 2,2,2=2 5,-inf,inf=5 inf,-inf,inf=inf -inf,-inf,inf=-inf 5,inf,inf=inf 5,-inf,-inf=-inf 5,-inf,3=3 5,7,inf=7 nan,-inf,inf=nan"},
		// Of noughts of either sign none is the greater.
		{"clamp", "-0,0,5=-0 0,-0,5=0 0,-5,-0=0 -0,-5,0=-0 0,0,-0=0 -0,0,-0=-0 0,-0,0=0 -0,-0,0=-0 -1,0,-0=0 -1,-0,0=-0 1,0,-0=-0 1,-0,0=0 -1,-0,5=-0 1,-5,-0=-0"},
		{"clamp_min", "2,3=3 4,3=4 3,3=3 -0,0=-0 0,-0=0 -1,-0=-0 nan,1=nan stale,1=nan 1,nan=nan 1,stale=nan nan,nan=nan 5,inf=inf 5,-inf=5 -inf,-inf=-inf inf,inf=inf inf,3=inf -inf,3=3 -max,max=max nan,inf=nan"},
		{"clamp_max", "2,1=1 1,2=1 2,2=2 -0,0=-0 0,-0=0 1,-0=-0 nan,1=nan stale,1=nan 1,nan=nan 1,stale=nan nan,nan=nan 5,inf=5 5,-inf=-inf -inf,-inf=-inf inf,inf=inf inf,3=3 -inf,3=-inf max,-max=-max nan,-inf=nan"},
	} {
		for _, row := range strings.Fields(x.rows) {
			args, want, _ := strings.Cut(row, "=")
			got, ok := funcs.Math(x.name, list(strings.ReplaceAll(args, ",", " ")))
			if !ok {
				t.Error(x.name, row, "is none")
			}
			wantFloat(t, got, value(want), x.name, args)
		}
	}
}

// counts says how many numbers each function of Math may have.
var counts = map[string][]int{"abs": {1}, "ceil": {1}, "floor": {1}, "sqrt": {1}, "sgn": {1}, "round": {1, 2}, "clamp": {3}, "clamp_min": {2}, "clamp_max": {2}}

// P14.2: too few args, too many, and names that are none of Math's.
func TestMathRefuses(t *testing.T) {
	names := []string{"", "nosuch", "Abs", "ABS", "abs ", " abs", "sum", "min", "clamp_", "clampmin", "ln", "exp", "sort", "+", "%", "==", "\xff", "a\x00"}
	for _, row := range rows {
		names = append(names, strings.Fields(row.names)...)
	}
	for _, name := range names {
		for n := range 6 {
			args := slices.Repeat([]float64{7}, n)
			got, ok := funcs.Math(name, args)
			if !slices.Contains(counts[name], n) {
				wantNone(t, got, ok, name, "of", n)
			} else if !ok || math.IsNaN(got) {
				t.Error(name, "of", n, got, ok)
			}
		}
		got, ok := funcs.Math(name, make([]float64, 100000))
		wantNone(t, got, ok, name, "of 100000")
	}
}

// mathModel is what the chapter says of a function of Math, in other words.
func mathModel(name string, args []float64) float64 {
	x := args[0]
	// among is the middle one of x and two bounds.
	among := func(least, most float64) float64 {
		switch {
		case math.IsNaN(x):
			return x
		case x < least:
			return least
		case most < x:
			return most
		}
		return x
	}
	switch name {
	case "abs":
		return math.Float64frombits(math.Float64bits(x) &^ (1 << 63))
	case "ceil":
		return math.Ceil(x)
	case "floor":
		return math.Floor(x)
	case "sqrt":
		return math.Sqrt(x)
	case "sgn":
		return map[bool]float64{true: math.Copysign(1, x), false: x}[x < 0 || x > 0]
	case "round":
		turn := 1.0
		if len(args) == 2 {
			turn = by(1, args[1])
		}
		return by(math.Floor(plus(times(x, turn), 0.5)), turn)
	case "clamp":
		if least, most := args[1], args[2]; least < most || least == most {
			return among(least, most)
		}
	case "clamp_min":
		if args[1] == args[1] {
			return among(args[1], inf)
		}
	case "clamp_max":
		if args[1] == args[1] {
			return among(negInf, args[1])
		}
	}
	return nan
}

// P14.2, R6: all odd numbers with all odd numbers, and many others.
func TestMathModel(t *testing.T) {
	r := rand.New(rand.NewSource(141))
	for name, most := range counts {
		for _, n := range most {
			var rows [][]float64
			for _, x := range odd {
				for _, y := range odd {
					rows = append(rows, []float64{x, y, odd[r.Intn(len(odd))]}[:n], []float64{x, someFloat(r), y}[:n])
				}
			}
			for range 3000 {
				rows = append(rows, floats(r, n))
			}
			for _, args := range rows {
				got, ok := funcs.Math(name, args)
				if !ok {
					t.Error(name, args)
				}
				wantFloat(t, got, mathModel(name, args), name, args)
			}
		}
	}
}
