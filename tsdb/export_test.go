package tsdb

// Held is what a DB keeps beside its blocks: how many samples, how many deleted pieces, and whether it is unsure of the log.
func (b *DB) Held() (samples, pieces int, unsure bool) {
	_, samples = b.head.Count()
	return samples, len(b.gone), b.unsure
}
