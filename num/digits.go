package num

import (
	"math"
	"math/bits"
)

// span is a float without its sign, and how far below and above it the numbers reach that are read as it: all three counted in parts of whole.
type span struct {
	value, below, above, whole natural
	closed                     bool // whether the ends of the span are read as the float too
}

// Digits is the shortest digits of a float.
func Digits(v float64) (digits string, exp int, neg bool) {
	raw := math.Float64bits(v)
	neg = raw&signBit != 0
	raw &^= signBit
	if raw == 0 || raw >= infBits {
		return "", 0, neg
	}
	count, power := apart(raw)
	s := spanOf(count, power)
	exp = s.scale(bits.Len64(count) - 1 + power)
	out := s.shortest()
	if out[0] > '9' {
		// Only a first digit can be rounded up to ten: a later one would have ended the digits ahead of it.
		return "1", exp + 1, neg
	}
	return string(out), exp, neg
}

// apart is the count and the power of two whose product is the float of those bits, which are without a sign.
func apart(raw uint64) (count uint64, power int) {
	field, count := int(raw>>fractionBits), raw&(hiddenBit-1)
	if field == 0 {
		return count, leastPower
	}
	return count | hiddenBit, field - 1 + leastPower
}

// spanOf is the span of the float that is count times two to the power.
func spanOf(count uint64, power int) span {
	below := uint64(2)
	if count == hiddenBit && power > leastPower {
		// The floats below a power of two lie half as far apart as those above it.
		below = 1
	}
	up, down := max(power, 0), max(-power, 0)
	return span{
		value:  naturalOf(count).shifted(up + 2),
		below:  naturalOf(below).shifted(up),
		above:  naturalOf(2).shifted(up),
		whole:  naturalOf(4).shifted(down),
		closed: count%2 == 0,
	}
}

// scale makes the value less than the whole, but no less than a tenth of it, and tells by which power of ten it did so; top is the power of two of the value's first bit.
func (s *span) scale(top int) int {
	// The logarithm of 2, in parts of 2^32: near enough for the greatest power of ten that is at most 2^top, for all floats.
	exp := top*1292913986>>32 + 1
	s.whole = s.whole.tens(exp)
	s.grow(func(a natural) natural { return a.tens(-exp) })
	if s.value.compare(s.whole) >= 0 {
		s.whole = s.whole.grown(10, 0)
		exp++
	}
	return exp
}

// grow changes the value and its reach alike.
func (s *span) grow(change func(natural) natural) {
	s.value, s.below, s.above = change(s.value), change(s.below), change(s.above)
}

// shortest is the fewest digits behind the point that lie in the span, and of them the nearest; a last digit of ten is the byte behind '9'.
func (s *span) shortest() []byte {
	var out []byte
	var digit byte
digits:
	for {
		s.grow(func(a natural) natural { return a.grown(10, 0) })
		digit = '0'
		for s.value.compare(s.whole) >= 0 {
			s.value = s.value.minus(s.whole)
			digit++
		}
		// What is left of the value is how far the digits lie below it; the next digit up lies above it by the rest of the whole.
		down := s.within(s.value.compare(s.below))
		up := s.within(s.whole.compare(s.value.plus(s.above)))
		switch {
		case up && !(down && s.downIsNearer(digit)):
			digit++
			break digits
		case down:
			break digits
		}
		out = append(out, digit)
	}
	return append(out, digit)
}

// within tells whether a distance lies within the span, by how it compares to the reach.
func (s *span) within(compared int) bool {
	return compared < 0 || compared == 0 && s.closed
}

// downIsNearer tells whether the digit is nearer than the next one, or as near and even.
func (s *span) downIsNearer(digit byte) bool {
	half := s.value.plus(s.value).compare(s.whole)
	return half < 0 || half == 0 && digit%2 == 0
}
