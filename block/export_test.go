package block

// Sealed writes bytes in pages, as a block's file has them.
func Sealed(raw []byte) []byte { return sealed(raw) }

// Unsealed reads what Sealed wrote.
func Unsealed(raw []byte) ([]byte, bool) { return unsealed(raw) }

// SealedAt writes a page as it would stand at that byte of a file, one that holds nothing too.
func SealedAt(at int, held []byte) []byte {
	return appendNumbers(append([]byte{}, held...), sum(at, held))
}
