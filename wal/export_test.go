package wal

// Forged is the bytes of a segment of that name's number, as a log would have written them: the opening tells the first records, the last one stands behind it.
func Forged(number int, order []int, ahead, count int, records ...string) []byte {
	s := segment{rank: order, ahead: place{ahead, count}}
	for i, r := range records {
		if i < len(records)-1 {
			s.records = append(s.records, []byte(r))
		}
	}
	raw := frame(number, 0, s.opening())
	if len(records) > 0 {
		raw = append(raw, frame(number, len(raw), []byte(records[len(records)-1]))...)
	}
	return raw
}
