package wal

import "iter"

// The numbers of a sum.
const (
	sumStart = 2166136261
	sumTimes = 16777619
	sumBytes = 4
)

// A number takes 7 bits of each of its bytes, the lowest first; the highest bit says that more follow.
const (
	numberBits = 7
	numberMore = 1 << numberBits
	// numberMost is how many bytes a number has at most, so that it fits an int.
	numberMost = 9
)

// frame writes bytes so that they can be told to be whole, behind their length and their sum: it stands in the segment of that number, at that byte.
func frame(number, at int, payload []byte) []byte {
	raw := make([]byte, 0, numberMost+sumBytes+len(payload))
	raw = appendNumber(raw, len(payload))
	s := sum(number, at, payload)
	raw = append(raw, byte(s>>24), byte(s>>16), byte(s>>8), byte(s))
	return append(raw, payload...)
}

// frames tells what the frames of a segment's bytes hold, up to the first that is not whole.
func frames(number int, raw []byte) iter.Seq[[]byte] {
	return func(yield func([]byte) bool) {
		at := 0
	reading:
		for {
			size, rest, ok := cutNumber(raw[at:])
			switch {
			case !ok || size > len(rest)-sumBytes:
				break reading
			case readSum(rest) != sum(number, at, rest[sumBytes:sumBytes+size]):
				break reading
			}
			end := sumBytes + size
			if !yield(rest[sumBytes:end:end]) {
				return
			}
			at = len(raw) - len(rest) + end
		}
	}
}

// sum is over bytes and where they stand, so that a copy elsewhere is not taken for a record.
func sum(number, at int, payload []byte) uint32 {
	s := uint32(sumStart)
	for _, n := range [...]int{number, at} {
		for ; n > 0; n >>= 8 {
			s = (s ^ uint32(n&0xff)) * sumTimes
		}
		s *= sumTimes
	}
	for _, b := range payload {
		s = (s ^ uint32(b)) * sumTimes
	}
	return s
}

// readSum reads what frame wrote as the sum.
func readSum(raw []byte) uint32 {
	return uint32(raw[0])<<24 | uint32(raw[1])<<16 | uint32(raw[2])<<8 | uint32(raw[3])
}

func appendNumber(raw []byte, n int) []byte {
	for ; n >= numberMore; n >>= numberBits {
		raw = append(raw, byte(n)|numberMore)
	}
	return append(raw, byte(n))
}

// cutNumber reads what appendNumber wrote, and tells what stands behind it.
func cutNumber(raw []byte) (int, []byte, bool) {
	n := 0
	for i, b := range raw[:min(len(raw), numberMost)] {
		n |= int(b&(numberMore-1)) << (i * numberBits)
		if b < numberMore {
			return n, raw[i+1:], true
		}
	}
	return 0, nil, false
}
