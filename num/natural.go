package num

import (
	"cmp"
	"math/bits"
)

// A word's worth of decimal digits, by which powers of ten are made in few steps.
const (
	stepDigits = 9
	stepPower  = 1000000000
)

// natural is a whole number from 0 on, of any size: words of 32 bits, the least first, the last one never 0.
type natural []uint32

// naturalOf is the natural of one number.
func naturalOf(n uint64) natural {
	return natural{uint32(n), uint32(n >> 32)}.trimmed()
}

// trimmed is a without the words 0 at its end.
func (a natural) trimmed() natural {
	for len(a) > 0 && a[len(a)-1] == 0 {
		a = a[:len(a)-1]
	}
	return a
}

// length is how many bits a has, which is not 0.
func (a natural) length() int {
	return 32*len(a) - bits.LeadingZeros32(a[len(a)-1])
}

// compare is -1, 0 or 1, as a is less than b, as great, or greater.
func (a natural) compare(b natural) int {
	if len(a) != len(b) {
		return cmp.Compare(len(a), len(b))
	}
	for i := len(a) - 1; i >= 0; i-- {
		if a[i] != b[i] {
			return cmp.Compare(a[i], b[i])
		}
	}
	return 0
}

// grown is a times factor, which is not 0, and more; it takes a's memory.
func (a natural) grown(factor, more uint32) natural {
	carry := uint64(more)
	for i, w := range a {
		carry += uint64(w) * uint64(factor)
		a[i] = uint32(carry)
		carry >>= 32
	}
	if carry > 0 {
		a = append(a, uint32(carry))
	}
	return a
}

// tens is a times ten to the n; it takes a's memory.
func (a natural) tens(n int) natural {
	for ; n >= stepDigits; n -= stepDigits {
		a = a.grown(stepPower, 0)
	}
	for ; n > 0; n-- {
		a = a.grown(10, 0)
	}
	return a
}

// shifted is a times two to the n, in memory of its own.
func (a natural) shifted(n int) natural {
	out := make(natural, n/32, n/32+len(a)+1)
	carry := uint64(0)
	for _, w := range a {
		carry |= uint64(w) << (n % 32)
		out = append(out, uint32(carry))
		carry >>= 32
	}
	return append(out, uint32(carry)).trimmed()
}

// plus is the sum, in memory of its own.
func (a natural) plus(b natural) natural {
	if len(a) < len(b) {
		a, b = b, a
	}
	out := make(natural, 0, len(a)+1)
	carry := uint64(0)
	for i, w := range a {
		carry += uint64(w)
		if i < len(b) {
			carry += uint64(b[i])
		}
		out = append(out, uint32(carry))
		carry >>= 32
	}
	return append(out, uint32(carry)).trimmed()
}

// minus is a less b, which is at most a; it takes a's memory.
func (a natural) minus(b natural) natural {
	borrow := uint64(0)
	for i, w := range a {
		left := uint64(w) - borrow
		if i < len(b) {
			left -= uint64(b[i])
		}
		a[i] = uint32(left)
		borrow = left >> 63
	}
	return a.trimmed()
}
