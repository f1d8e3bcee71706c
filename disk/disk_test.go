package disk_test

import (
	"math"
	"slices"
	"strings"
	"testing"

	"vigil/api"
	"vigil/disk"
)

func want(t *testing.T, got, e api.Errno) {
	t.Helper()
	if got != e {
		t.Fatalf("answered %d, want %d", got, e)
	}
}

func wantBytes(t *testing.T, d *disk.Disk, name, text string) {
	t.Helper()
	raw, e := d.Read(name)
	if e != api.OK || string(raw) != text {
		t.Fatalf("Read %q: %q, %d, want %q", name, raw, e, text)
	}
}

func wantNames(t *testing.T, got []string, names ...string) {
	t.Helper()
	if !slices.Equal(got, names) {
		t.Fatalf("names %q, want %q", got, names)
	}
}

func wantInt(t *testing.T, what string, got, n int) {
	t.Helper()
	if got != n {
		t.Fatalf("%s is %d, want %d", what, got, n)
	}
}

// holding is a Disk with durable, empty files of these names, and nothing that pends.
func holding(t *testing.T, names ...string) *disk.Disk {
	t.Helper()
	d := disk.New(1000)
	for _, name := range names {
		want(t, d.Create(name), api.OK)
	}
	want(t, d.SyncDir(), api.OK)
	return d
}

// P1: every single byte, and the lengths.
func TestRightNames(t *testing.T) {
	const letters = "abcdefghijklmnopqrstuvwxyz0123456789./-_"
	for c := range 256 {
		e := api.ErrName
		if strings.IndexByte(letters, byte(c)) >= 0 {
			e = api.OK
		}
		for _, name := range []string{string([]byte{byte(c)}), string([]byte{'a', byte(c), 'z'}), string([]byte{'a', byte(c)})} {
			want(t, disk.New(0).Create(name), e)
		}
	}
	d := disk.New(0)
	want(t, d.Create(""), api.ErrName)
	want(t, d.Create(strings.Repeat("a", 64)), api.OK)
	want(t, d.Create(strings.Repeat("a", 65)), api.ErrName)
	want(t, d.Create(strings.Repeat("a", 1<<16)), api.ErrName)
	want(t, d.Create("/"), api.OK)
	want(t, d.Create("../a//b"), api.OK)
	wantNames(t, d.List(""), "../a//b", "/", strings.Repeat("a", 64))
}

// P1.1
func TestNewIsEmpty(t *testing.T) {
	d := disk.New(5)
	wantNames(t, d.List(""))
	wantNames(t, d.Durable())
	wantInt(t, "Used", d.Used(), 0)
	wantInt(t, "Ops", d.Ops(), 0)
	d.Crash([]int{3, 4})
	wantNames(t, d.List(""))
	wantNames(t, d.Durable())
	wantInt(t, "Used", d.Used(), 0)
	wantInt(t, "Ops", d.Ops(), 0)
}

// P1.1
func TestCapacity(t *testing.T) {
	for _, capacity := range []int{-1, math.MinInt, 0} {
		d := disk.New(capacity)
		want(t, d.Create("a"), api.OK)
		want(t, d.Append("a", []byte("x")), api.ErrFull)
		want(t, d.Append("a", nil), api.OK)
		d.SetCapacity(1)
		want(t, d.Append("a", []byte("x")), api.OK)
		d.SetCapacity(capacity)
		want(t, d.Append("a", []byte("y")), api.ErrFull)
		want(t, d.Append("a", []byte{}), api.OK)
		wantBytes(t, d, "a", "x")
	}
	d := disk.New(math.MaxInt)
	want(t, d.Create("a"), api.OK)
	want(t, d.Append("a", []byte("xyz")), api.OK)
}

// P1.1
func TestUsed(t *testing.T) {
	d := disk.New(10)
	d.Create("a")
	d.Create("b")
	d.Append("a", []byte("123"))
	d.Append("b", []byte("4567"))
	wantInt(t, "Used", d.Used(), 7)
	want(t, d.Append("b", []byte("8901")), api.ErrFull)
	want(t, d.Rename("a", "a"), api.OK)
	wantInt(t, "Used", d.Used(), 7)
	want(t, d.Rename("a", "b"), api.OK)
	wantInt(t, "Used", d.Used(), 3)
	want(t, d.Append("b", []byte("4567890")), api.OK)
	wantInt(t, "Used", d.Used(), 10)
	want(t, d.Remove("b"), api.OK)
	wantInt(t, "Used", d.Used(), 0)
	d.Create("b")
	d.SyncDir()
	d.Append("b", []byte("12345"))
	d.Crash([]int{0, 2})
	wantInt(t, "Used", d.Used(), 2)
}

// P1.1, P1.3: a Crash brings a removed file back, and with it its bytes.
func TestUsedAboveCapacity(t *testing.T) {
	d := holding(t, "a")
	d.SetCapacity(4)
	want(t, d.Append("a", []byte("1234")), api.OK)
	want(t, d.Sync("a"), api.OK)
	want(t, d.Remove("a"), api.OK)
	want(t, d.Create("b"), api.OK)
	d.SetCapacity(2)
	d.Crash(nil)
	wantInt(t, "Used", d.Used(), 4)
	want(t, d.Append("a", nil), api.OK)
	want(t, d.Append("a", []byte("5")), api.ErrFull)
	d.SetCapacity(5)
	want(t, d.Append("a", []byte("56")), api.ErrFull)
	want(t, d.Append("a", []byte("5")), api.OK)
}

// operations are all six, each with the names that it is given.
func operations(d *disk.Disk, name string) []func() api.Errno {
	return []func() api.Errno{
		func() api.Errno { return d.Create(name) },
		func() api.Errno { return d.Append(name, []byte("x")) },
		func() api.Errno { return d.Sync(name) },
		func() api.Errno { return d.Rename(name, "other") },
		func() api.Errno { return d.Rename("other", name) },
		func() api.Errno { return d.Remove(name) },
	}
}

// P1.2: each refusal ahead of those that come behind it, whatever the operation.
func TestOrderOfRefusals(t *testing.T) {
	for i := range operations(disk.New(0), "") {
		d := disk.New(0)
		do := operations(d, "BAD")[i]
		want(t, do(), api.ErrName)
		d.Fault(0, 2)
		want(t, do(), api.ErrIO)
		d.Fault(0, 1)
		d.Stop(0)
		want(t, do(), api.ErrDead)
		want(t, do(), api.ErrDead)
	}
	d := disk.New(0)
	d.Fault(0, 1)
	want(t, d.SyncDir(), api.ErrIO)
	want(t, d.SyncDir(), api.OK)
	d.Fault(0, 1)
	d.Stop(0)
	want(t, d.SyncDir(), api.ErrDead)
}

// P1.2: names are looked at ahead of what is there.
func TestNameAheadOfTheRest(t *testing.T) {
	d := holding(t, "a")
	want(t, d.Rename("BAD", "a"), api.ErrName)
	want(t, d.Rename("a", "BAD"), api.ErrName)
	want(t, d.Rename("nosuch", "BAD"), api.ErrName)
	want(t, d.Rename("BAD", "BAD"), api.ErrName)
	d.SetCapacity(0)
	want(t, d.Append("BAD", []byte("x")), api.ErrName)
	want(t, d.Append("nosuch", []byte("x")), api.ErrNone)
	want(t, d.Append("a", []byte("x")), api.ErrFull)
}

// P1.2: what is refused is not seen, neither now nor behind a Crash.
func TestRefusedDoesNothing(t *testing.T) {
	d := holding(t, "a", "b")
	d.Append("a", []byte("12"))
	d.Sync("a")
	d.Append("a", []byte("34"))
	refuse := func(do func() api.Errno) {
		t.Helper()
		d.Fault(0, 1)
		want(t, do(), api.ErrIO)
		d.Stop(0)
		want(t, do(), api.ErrDead)
		d.Stop(math.MaxInt)
	}
	refuse(func() api.Errno { return d.Create("c") })
	refuse(func() api.Errno { return d.Append("a", []byte("xy")) })
	refuse(func() api.Errno { return d.Sync("a") })
	refuse(func() api.Errno { return d.Rename("a", "b") })
	refuse(func() api.Errno { return d.Remove("a") })
	d.Remove("b")
	refuse(d.SyncDir)
	wantNames(t, d.List(""), "a")
	wantNames(t, d.Durable(), "a", "b")
	wantBytes(t, d, "a", "1234")
	wantInt(t, "Used", d.Used(), 4)
	d.Crash(nil)
	wantNames(t, d.List(""), "a", "b")
	wantBytes(t, d, "a", "12")
}

// P1.3
func TestCreate(t *testing.T) {
	d := disk.New(10)
	want(t, d.Create("a"), api.OK)
	wantBytes(t, d, "a", "")
	want(t, d.Append("a", []byte("x")), api.OK)
	want(t, d.Create("a"), api.ErrThere)
	wantBytes(t, d, "a", "x")
	want(t, d.Remove("a"), api.OK)
	want(t, d.Create("a"), api.OK)
	wantBytes(t, d, "a", "")
}

// P1.3
func TestAppend(t *testing.T) {
	d := disk.New(2)
	want(t, d.Append("a", nil), api.ErrNone)
	want(t, d.Append("a", []byte("abc")), api.ErrNone)
	want(t, d.Create("a"), api.OK)
	want(t, d.Append("a", []byte("abc")), api.ErrFull)
	wantBytes(t, d, "a", "")
	want(t, d.Append("a", []byte("a")), api.OK)
	want(t, d.Append("a", []byte("bc")), api.ErrFull)
	want(t, d.Append("a", []byte("\x00")), api.OK)
	want(t, d.Append("a", nil), api.OK)
	wantBytes(t, d, "a", "a\x00")
}

// P1.3
func TestSync(t *testing.T) {
	d := holding(t, "a")
	want(t, d.Sync("b"), api.ErrNone)
	d.Append("a", []byte("123"))
	want(t, d.Sync("a"), api.OK)
	d.Append("a", []byte("45"))
	d.Crash(nil)
	wantBytes(t, d, "a", "123")
	d.Create("n")
	d.Append("n", []byte("678"))
	want(t, d.Sync("n"), api.OK) // makes the bytes durable, the name not
	wantNames(t, d.Durable(), "a")
	d.Crash(nil)
	wantNames(t, d.List(""), "a")
}

// P1.3
func TestRename(t *testing.T) {
	d := holding(t, "a", "b")
	d.Append("a", []byte("x"))
	d.Append("b", []byte("y"))
	want(t, d.Rename("c", "a"), api.ErrNone)
	want(t, d.Rename("c", "c"), api.ErrNone)
	want(t, d.Rename("a", "b"), api.OK)
	wantNames(t, d.List(""), "b")
	wantBytes(t, d, "b", "x")
	want(t, d.Rename("a", "b"), api.ErrNone)
	want(t, d.Append("b", []byte("z")), api.OK)
	want(t, d.Rename("b", "a"), api.OK)
	wantBytes(t, d, "a", "xz")
	wantNames(t, d.List(""), "a")
}

// P1.3: Rename of one name does not pend: of two changes one is cut by 1, and both by 2.
func TestRenameToItself(t *testing.T) {
	d := holding(t, "a")
	d.Append("a", []byte("12"))
	d.Sync("a")
	want(t, d.Rename("a", "a"), api.OK)
	want(t, d.Create("b"), api.OK)
	want(t, d.Rename("a", "a"), api.OK)
	d.Crash([]int{1})
	wantNames(t, d.List(""), "a", "b")
	wantBytes(t, d, "a", "12")
	want(t, d.Create("c"), api.OK)
	want(t, d.Rename("c", "c"), api.OK)
	want(t, d.Rename("c", "c"), api.OK)
	d.Crash([]int{2})
	wantNames(t, d.List(""), "a", "b")
}

// P1.3
func TestRemove(t *testing.T) {
	d := holding(t, "a")
	want(t, d.Remove("b"), api.ErrNone)
	want(t, d.Remove("a"), api.OK)
	want(t, d.Remove("a"), api.ErrNone)
	_, e := d.Read("a")
	want(t, e, api.ErrNone)
	wantNames(t, d.List(""))
}

// P1.3, P1.8
func TestSyncDir(t *testing.T) {
	d := disk.New(10)
	for _, name := range []string{"b", "a", "c"} {
		d.Create(name)
	}
	wantNames(t, d.Durable())
	want(t, d.SyncDir(), api.OK)
	wantNames(t, d.Durable(), "a", "b", "c")
	d.Rename("b", "d")
	d.Remove("a")
	wantNames(t, d.Durable(), "a", "b", "c")
	want(t, d.SyncDir(), api.OK)
	wantNames(t, d.Durable(), "c", "d")
	d.Crash([]int{1})
	wantNames(t, d.List(""), "c", "d")
	d.Append("c", []byte("x")) // the directory's durable state says nothing of bytes
	want(t, d.SyncDir(), api.OK)
	d.Crash(nil)
	wantBytes(t, d, "c", "")
}

// P1.4
func TestReadAndList(t *testing.T) {
	d := disk.New(10)
	for _, name := range []string{"b", "a/b", "a", "a/a", "a-a", "aa", "a.a", "a_a", "a0"} {
		want(t, d.Create(name), api.OK)
	}
	wantNames(t, d.List(""), "a", "a-a", "a.a", "a/a", "a/b", "a0", "a_a", "aa", "b")
	wantNames(t, d.List("a/"), "a/a", "a/b")
	wantNames(t, d.List("a/b"), "a/b")
	wantNames(t, d.List("a/bc"))
	wantNames(t, d.List("A"))
	wantNames(t, d.List("\xff"))
	for _, name := range []string{"", "A", "a b", strings.Repeat("b", 65)} {
		raw, e := d.Read(name)
		want(t, e, api.ErrName)
		wantInt(t, "length", len(raw), 0)
	}
	raw, e := d.Read("nosuch")
	want(t, e, api.ErrNone)
	wantInt(t, "length", len(raw), 0)
}

// P1.4: they count for nothing, and answer of a stopped Disk too.
func TestReadAndListAreNoOperations(t *testing.T) {
	d := disk.New(10)
	d.Create("a")
	d.Append("a", []byte("x"))
	d.Fault(0, 1)
	n := d.Ops()
	wantBytes(t, d, "a", "x")
	wantNames(t, d.List(""), "a")
	wantNames(t, d.Durable())
	wantInt(t, "Ops", d.Ops(), n)
	want(t, d.Create("b"), api.ErrIO)
	d.Stop(0)
	wantBytes(t, d, "a", "x")
	wantNames(t, d.List(""), "a")
	_, e := d.Read("b")
	want(t, e, api.ErrNone)
}

// P1.5
func TestFaultWaits(t *testing.T) {
	d := disk.New(10)
	d.Fault(1, 1)
	want(t, d.Create("a"), api.OK)
	want(t, d.Create("b"), api.ErrIO)
	want(t, d.Create("b"), api.OK)
	d.Fault(-7, 1)
	want(t, d.Create("c"), api.ErrIO)
	d.Fault(math.MinInt, 1)
	want(t, d.Create("c"), api.ErrIO)
	d.Fault(math.MaxInt, 1)
	d.Fault(math.MaxInt-1, 1)
	want(t, d.Create("c"), api.OK)
	d.Fault(2, 1) // refused operations count too
	want(t, d.Create("c"), api.ErrThere)
	want(t, d.Create("C"), api.ErrName)
	want(t, d.Remove("c"), api.ErrIO)
	wantNames(t, d.List(""), "a", "b", "c")
}

// P1.5
func TestSeveralFaults(t *testing.T) {
	d := holding(t, "a")
	d.Fault(3, 1)
	d.Fault(0, 1)
	d.Fault(1, 1)
	want(t, d.Sync("a"), api.ErrIO)
	want(t, d.Sync("a"), api.ErrIO)
	want(t, d.Sync("a"), api.OK)
	want(t, d.Sync("a"), api.ErrIO)
	want(t, d.Sync("a"), api.OK)
	d.Fault(1, 2) // laid first
	want(t, d.Sync("a"), api.OK)
	d.Fault(0, 1)
	d.Fault(-1, 1)
	want(t, d.Append("a", []byte("abcd")), api.ErrIO)
	wantBytes(t, d, "a", "ab")
	d.Fault(0, 1)
	d.Fault(0, 2)
	want(t, d.Append("a", []byte("wxyz")), api.ErrIO)
	wantBytes(t, d, "a", "ab")
	want(t, d.Append("a", []byte("c")), api.OK) // one operation spends all that strike it
	wantBytes(t, d, "a", "abc")
}

// P1.5
func TestTornAppend(t *testing.T) {
	for text, left := range map[string]string{"abcd": "ab", "abc": "a", "a": "", "": ""} {
		d := holding(t, "a")
		d.Fault(0, 2)
		want(t, d.Append("a", []byte(text)), api.ErrIO)
		wantBytes(t, d, "a", left)
		wantInt(t, "Used", d.Used(), len(left))
	}
	for _, kind := range []int{0, 1, 3, -2, math.MaxInt} {
		d := holding(t, "a")
		d.Fault(0, kind)
		want(t, d.Append("a", []byte("abcd")), api.ErrIO)
		wantBytes(t, d, "a", "")
	}
}

// P1.5: half goes through only of an Append that would be OK, all of it.
func TestTornAppendThatWouldBeRefused(t *testing.T) {
	d := holding(t, "a")
	d.SetCapacity(3)
	d.Fault(0, 2)
	want(t, d.Append("a", []byte("abcd")), api.ErrIO)
	wantBytes(t, d, "a", "")
	for _, name := range []string{"nosuch", "BAD"} {
		d.Fault(0, 2)
		want(t, d.Append(name, []byte("ab")), api.ErrIO)
		d.Fault(0, 1)
		want(t, d.Append(name, []byte("ab")), api.ErrIO)
	}
	d.Fault(0, 2)
	d.Stop(0)
	want(t, d.Append("a", []byte("ab")), api.ErrDead)
	wantBytes(t, d, "a", "")
}

// P1.5: a fault of the kind 2 does nothing of what is no Append.
func TestTornOtherOperations(t *testing.T) {
	d := holding(t, "a")
	d.Append("a", []byte("1"))
	for _, do := range operations(d, "a")[2:] {
		d.Fault(0, 2)
		want(t, do(), api.ErrIO)
	}
	d.Fault(0, 2)
	want(t, d.Create("b"), api.ErrIO)
	d.Fault(0, 2)
	want(t, d.SyncDir(), api.ErrIO)
	wantNames(t, d.List(""), "a")
	d.Crash(nil)
	wantBytes(t, d, "a", "")
}

// P1.5: spent by an operation that is ErrDead; a later Stop lets operations through again.
func TestFaultSpentWhileStopped(t *testing.T) {
	d := holding(t, "a")
	d.Fault(0, 1)
	d.Fault(2, 1)
	d.Stop(0)
	want(t, d.Sync("a"), api.ErrDead)
	d.Stop(10)
	want(t, d.Sync("a"), api.OK)
	want(t, d.Sync("a"), api.ErrIO)
	want(t, d.Sync("a"), api.OK)
}

// P1.6
func TestStop(t *testing.T) {
	for _, after := range []int{0, -1, math.MinInt} {
		d := holding(t, "a")
		d.Stop(after)
		want(t, d.Sync("a"), api.ErrDead)
		want(t, d.SyncDir(), api.ErrDead)
		d.Crash(nil)
		want(t, d.Sync("a"), api.OK)
	}
	d := holding(t, "a")
	d.Stop(3)
	d.Fault(1, 1)
	want(t, d.Create("a"), api.ErrThere) // refused ones count too
	want(t, d.Sync("a"), api.ErrIO)
	want(t, d.Sync("a"), api.OK)
	for range 5 {
		want(t, d.Sync("a"), api.ErrDead)
	}
	d.Stop(math.MaxInt)
	want(t, d.Sync("a"), api.OK)
}

// P1.6: a later Stop takes the place of an earlier one.
func TestStopAgain(t *testing.T) {
	d := holding(t, "a")
	d.Stop(1)
	d.Stop(2)
	want(t, d.Sync("a"), api.OK)
	want(t, d.Sync("a"), api.OK)
	want(t, d.Sync("a"), api.ErrDead)
	d.Crash(nil)
	d.Stop(5)
	d.Stop(1)
	want(t, d.Sync("a"), api.OK)
	want(t, d.Sync("a"), api.ErrDead)
}

// P1.8
func TestOps(t *testing.T) {
	d := disk.New(1)
	for i, do := range []func() api.Errno{
		func() api.Errno { return d.Create("a") },
		func() api.Errno { return d.Create("a") },
		func() api.Errno { return d.Create("A") },
		func() api.Errno { return d.Append("a", []byte("xy")) },
		func() api.Errno { return d.Append("a", []byte("x")) },
		func() api.Errno { return d.Sync("a") },
		func() api.Errno { return d.Rename("a", "a") },
		func() api.Errno { return d.Remove("b") },
		d.SyncDir,
	} {
		wantInt(t, "Ops", d.Ops(), i)
		do()
	}
	d.Fault(0, 1)
	d.SyncDir()
	d.Stop(0)
	d.SyncDir()
	wantInt(t, "Ops", d.Ops(), 11)
	d.Crash(nil)
	d.SetCapacity(3)
	d.Used()
	wantInt(t, "Ops", d.Ops(), 11)
	d.SyncDir()
	wantInt(t, "Ops", d.Ops(), 12)
}

// R2: neither what is handed in nor what is answered is shared.
func TestMemory(t *testing.T) {
	d := holding(t, "a", "b")
	room := []byte("abcdefgh")
	want(t, d.Append("a", room[:3]), api.OK)
	want(t, d.Append("b", room[:2]), api.OK)
	want(t, d.Append("a", []byte("XYZ")), api.OK)
	if string(room) != "abcdefgh" {
		t.Fatalf("handed in bytes are now %q", room)
	}
	room[0] = '!'
	wantBytes(t, d, "a", "abcXYZ")
	raw, _ := d.Read("a")
	again, _ := d.Read("a")
	raw[0] = '!'
	_ = append(raw[:1], "??????????"...)
	if string(again) != "abcXYZ" {
		t.Fatalf("two answers share memory: %q", again)
	}
	wantBytes(t, d, "a", "abcXYZ")
	d.List("")[0] = "zz"
	d.Durable()[0] = "zz"
	wantNames(t, d.List(""), "a", "b")
	wantNames(t, d.Durable(), "a", "b")
	cuts := []int{-1, -1, 9}
	d.Crash(cuts)
	if !slices.Equal(cuts, []int{-1, -1, 9}) {
		t.Fatal("cuts were changed", cuts)
	}
}

// R4
func TestTwoDisksAreApart(t *testing.T) {
	d, other := disk.New(10), disk.New(10)
	d.Create("a")
	d.Fault(0, 1)
	d.Stop(0)
	d.SetCapacity(0)
	want(t, other.Create("a"), api.OK)
	want(t, other.Append("a", []byte("x")), api.OK)
	wantInt(t, "Ops", other.Ops(), 2)
	wantBytes(t, d, "a", "")
}
