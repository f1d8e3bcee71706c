package block

import (
	"bytes"
	"slices"
)

// A file is pages, all of one size but for the last; a page is bytes, one or more, and their sum.
const (
	pageSize = 1024
	sumSize  = numberSize
)

// The numbers of a sum.
const (
	sumStart = 14695981039346656037
	sumTimes = 1099511628211
)

// sealed is bytes as pages.
func sealed(raw []byte) []byte {
	var out []byte
	for held := range slices.Chunk(raw, pageSize-sumSize) {
		s := sum(len(out), held)
		out = appendNumbers(append(out, held...), s)
	}
	return out
}

// unsealed is the bytes that pages hold; false if one of these is not as it was sealed.
func unsealed(raw []byte) ([]byte, bool) {
	var out []byte
	at := 0
checking:
	for page := range slices.Chunk(raw, pageSize) {
		end := len(page) - sumSize
		switch {
		case end < 1:
			break checking
		case !bytes.Equal(page[end:], appendNumbers(nil, sum(at, page[:end]))):
			break checking
		}
		out = append(out, page[:end]...)
		at += len(page)
	}
	return out, at == len(raw)
}

// sum is over where a page stands too, so that none is taken for another. Where one byte differs, sums do: each step leads from any two numbers to two.
func sum(at int, held []byte) int {
	s := uint64(sumStart)
	for _, c := range appendNumbers(nil, at) {
		s = (s ^ uint64(c)) * sumTimes
	}
	for _, c := range held {
		s = (s ^ uint64(c)) * sumTimes
	}
	return int(s)
}
