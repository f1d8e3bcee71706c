package disk_test

import (
	"fmt"

	"vigil/disk"
)

// The run that README.md tells.
func Example() {
	d := disk.New(1000)
	d.Create("wal/0")
	d.SyncDir()
	d.Append("wal/0", []byte("ab"))
	d.Sync("wal/0")
	d.Append("wal/0", []byte("cd"))
	d.Fault(0, 2)
	fmt.Println(d.Append("wal/0", []byte("ef")))
	d.Stop(1)
	d.Crash([]int{0, 1})
	raw, e := d.Read("wal/0")
	fmt.Println(string(raw), e)
	// Output:
	// 6
	// abc 0
}
