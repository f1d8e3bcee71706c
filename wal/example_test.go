package wal_test

import (
	"fmt"

	"vigil/disk"
	"vigil/wal"
)

// The run that README.md tells.
func Example() {
	d := disk.New(1000)
	l, records, e := wal.Open(d)
	fmt.Println(len(records), e, d.Ops())
	fmt.Println(l.Append([]byte("a")))
	d.Fault(0, 2)
	fmt.Println(l.Append([]byte("b")), l.Failed())
	fmt.Println(l.Append([]byte("c")))
	d.Crash(nil)
	l, records, e = wal.Open(d)
	fmt.Println(len(records), e)
	for i, record := range l.All() {
		fmt.Println(i, string(record))
	}
	fmt.Println(l.Checkpoint([][]byte{[]byte("x")}))
	fmt.Println(l.Count(), l.Bytes(), l.Failed())
	// Output:
	// 0 0 0
	// 0
	// 6 true
	// 0
	// 2 0
	// 0 a
	// 1 c
	// 0
	// 1 1 false
}
