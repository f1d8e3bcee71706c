package chunk

// bitRow is a row of bits, from the highest of each byte on; the last byte is filled up with 0.
type bitRow struct {
	bytes []byte
	size  int // in bits
}

// put adds the lowest bits of v, the higher first.
func (b *bitRow) put(v uint64, width int) {
	for width > 0 {
		if b.size%8 == 0 {
			b.bytes = append(b.bytes, 0)
		}
		free := 8 - b.size%8
		n := min(free, width)
		width -= n
		b.bytes[len(b.bytes)-1] |= byte(v>>width&(1<<n-1)) << (free - n)
		b.size += n
	}
}

// bitReader takes bits off a row, from its beginning on.
type bitReader struct {
	bytes []byte
	at    int // in bits
}

// take is the next so many bits as a number; false if there are fewer.
func (r *bitReader) take(width int) (uint64, bool) {
	if width > 8*len(r.bytes)-r.at {
		return 0, false
	}
	var v uint64
	for width > 0 {
		left := 8 - r.at%8
		n := min(left, width)
		v = v<<n | uint64(r.bytes[r.at/8])>>(left-n)&(1<<n-1)
		width -= n
		r.at += n
	}
	return v, true
}
