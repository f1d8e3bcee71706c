package num

import (
	"math"

	"vigil/api"
)

// Bounds ahead of which no reckoning is needed; the digits of a number's text can't make up for them.
const (
	farExponent = 1 << 20 // any exponent beyond is as good as this one
	leastTop    = -324    // below ten to this power all is read as 0
	mostTop     = 310     // from ten to the power ahead of it on all is read as infinite
)

// decimal is a number as it is written: whole digits, without noughts ahead, times ten to the power.
type decimal struct {
	digits []byte
	power  int
}

// Parse reads a float.
func Parse(s string) (float64, api.Errno) {
	if len(s) > api.MaxNumber {
		return 0, api.ErrForm
	}
	s, neg := cutSign(s)
	var raw uint64
	switch lower(s) {
	case "nan":
		return math.Float64frombits(nanBits), api.OK
	case "inf", "infinity":
		raw = infBits
	default:
		d, ok := readDecimal(s)
		if !ok {
			return 0, api.ErrForm
		}
		raw = d.nearest()
	}
	if neg {
		raw |= signBit
	}
	return math.Float64frombits(raw), api.OK
}

// cutSign is s behind its sign, and whether that is a minus.
func cutSign(s string) (string, bool) {
	if s != "" && (s[0] == '-' || s[0] == '+') {
		return s[1:], s[0] == '-'
	}
	return s, false
}

// lower is s with small letters.
func lower(s string) string {
	out := []byte(s)
	for i, b := range out {
		if 'A' <= b && b <= 'Z' {
			out[i] = b - 'A' + 'a'
		}
	}
	return string(out)
}

// readDecimal reads a number without a sign.
func readDecimal(s string) (decimal, bool) {
	var d decimal
	seen, point, at := 0, false, 0
digits:
	for ; at < len(s); at++ {
		switch b := s[at]; {
		case isDigit(b):
			seen++
			if b != '0' || len(d.digits) > 0 {
				d.digits = append(d.digits, b-'0')
			}
			if point {
				d.power--
			}
		case b == '.' && !point:
			point = true
		default:
			break digits
		}
	}
	if seen == 0 {
		return decimal{}, false
	}
	if at == len(s) {
		return d, true
	}
	if s[at] != 'e' && s[at] != 'E' {
		return decimal{}, false
	}
	exponent, ok := readExponent(s[at+1:])
	d.power += exponent
	return d, ok
}

// readExponent reads what stands behind the letter e.
func readExponent(s string) (int, bool) {
	s, neg := cutSign(s)
	if s == "" {
		return 0, false
	}
	n := 0
	for i := range len(s) {
		if !isDigit(s[i]) {
			return 0, false
		}
		n = min(n*10+int(s[i]-'0'), farExponent)
	}
	if neg {
		n = -n
	}
	return n, true
}

// isDigit tells whether b is a decimal digit.
func isDigit(b byte) bool { return '0' <= b && b <= '9' }

// nearest is the bits of the float that is nearest to the number.
func (d decimal) nearest() uint64 {
	top := len(d.digits) + d.power
	switch {
	case len(d.digits) == 0, top <= leastTop:
		return 0
	case top >= mostTop:
		return infBits
	}
	var above natural
	for _, digit := range d.digits {
		above = above.grown(10, uint32(digit))
	}
	above = above.tens(d.power)
	below := naturalOf(1).tens(-d.power)
	return quotient(above, below)
}

// quotient is the bits of the float that is nearest to above through below.
func quotient(above, below natural) uint64 {
	// Shifted so that above is at least below, and less than twice of it: the quotient's first bit counts two to the top.
	top := above.length() - below.length()
	above, below = above.shifted(max(-top, 0)), below.shifted(max(top, 0))
	if above.compare(below) < 0 {
		above = above.grown(2, 0)
		top--
	}
	if top < leastPower-1 {
		return 0
	}
	power := max(top-fractionBits, leastPower)
	count := uint64(0)
	for range top - power + 1 {
		count *= 2
		if above.compare(below) >= 0 {
			above = above.minus(below)
			count++
		}
		above = above.grown(2, 0)
	}
	// What is left has been doubled, so that below stands for half a step.
	if half := above.compare(below); half > 0 || half == 0 && count%2 == 1 {
		count++
	}
	// A count with the hidden bit, or one that was rounded up beyond its bits, carries into the exponent as it should.
	return min(count+uint64(power-leastPower)<<fractionBits, infBits)
}
