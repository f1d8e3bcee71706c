package wal_test

import (
	"bytes"
	"slices"
	"strconv"
	"strings"
	"testing"

	"vigil/api"
	"vigil/disk"
	"vigil/wal"
)

const room = 1 << 20

func want(t *testing.T, got, e api.Errno) {
	t.Helper()
	if got != e {
		t.Fatalf("answered %d, want %d", got, e)
	}
}

// spelt writes a content so that records can't be taken for one another.
func spelt(records []string) string {
	var out strings.Builder
	for _, r := range records {
		out.WriteString(strconv.Quote(r))
	}
	return out.String()
}

func texts(records [][]byte) []string {
	var out []string
	for _, r := range records {
		out = append(out, string(r))
	}
	return out
}

func rows(records []string) [][]byte {
	var out [][]byte
	for _, r := range records {
		out = append(out, []byte(r))
	}
	return out
}

// wantContent asks all that a Log tells of its content.
func wantContent(t *testing.T, l *wal.Log, records []string) {
	t.Helper()
	var got []string
	for i, r := range l.All() {
		if i != len(got) {
			t.Fatalf("the number %d, want %d", i, len(got))
		}
		got = append(got, string(r))
	}
	if spelt(got) != spelt(records) {
		t.Fatalf("All: %.300s, want %.300s", spelt(got), spelt(records))
	}
	if l.Count() != len(records) || l.Bytes() != len(strings.Join(records, "")) {
		t.Fatalf("Count %d, Bytes %d of %.300s", l.Count(), l.Bytes(), spelt(records))
	}
}

// opened opens a Disk that must have that content.
func opened(t *testing.T, d *disk.Disk, records ...string) *wal.Log {
	t.Helper()
	l, got, e := wal.Open(d)
	want(t, e, api.OK)
	if spelt(texts(got)) != spelt(records) {
		t.Fatalf("Open: %.300s, want %.300s", spelt(texts(got)), spelt(records))
	}
	if l.Failed() {
		t.Fatal("Failed at first")
	}
	wantContent(t, l, records)
	return l
}

func put(t *testing.T, l *wal.Log, records ...string) {
	t.Helper()
	for _, r := range records {
		want(t, l.Append([]byte(r)), api.OK)
		if l.Failed() {
			t.Fatal("Failed behind OK")
		}
	}
}

// spend lets the faults strike that wait for one of the next operations, and does nothing else.
func spend(d *disk.Disk) {
	for range 40 {
		d.Sync("nosuch")
	}
}

// P6.1 to P6.5: the table Runs.
func TestRuns(t *testing.T) {
	d := disk.New(room)
	l := opened(t, d)
	put(t, l, "a", "b", "")
	opened(t, d, "a", "b", "")
	for _, cuts := range [][]int{nil, {1}, {9, 9, 9}, {-1, -1, -1, -1}} {
		d.Crash(cuts)
		opened(t, d, "a", "b", "")
	}

	d = disk.New(room)
	l = opened(t, d)
	put(t, l, "a")
	d.Fault(0, 2)
	want(t, l.Append([]byte("b")), api.ErrIO)
	put(t, l, "c")
	opened(t, d, "a", "c")
	d.Crash(nil)
	opened(t, d, "a", "c")

	told := map[string]int{}
	for cut := range 20 {
		d = disk.New(room)
		l = opened(t, d)
		put(t, l, "a")
		d.Stop(1)
		want(t, l.Append([]byte("b")), api.ErrDead)
		d.Crash([]int{0, cut})
		_, got, _ := wal.Open(d)
		told[spelt(texts(got))]++
	}
	if told[`"a"`]+told[`"a""b"`] != 20 {
		t.Fatal(told)
	}

	d = disk.New(room)
	l = opened(t, d)
	put(t, l, "a", "b")
	want(t, l.Checkpoint(rows([]string{"x"})), api.OK)
	put(t, l, "c")
	opened(t, d, "x", "c")
	d.Crash(nil)
	opened(t, d, "x", "c")

	d = disk.New(room)
	d.Create("wal/zz")
	d.Append("wal/zz", []byte("any bytes"))
	opened(t, d)
}

// The chapter's examples.
func TestExamples(t *testing.T) {
	d := disk.New(room)
	l := opened(t, d)
	put(t, l, "a", "b")
	want(t, l.Checkpoint(nil), api.OK)
	wantContent(t, l, nil)
	opened(t, d)
	d.Crash(nil)
	l = opened(t, d)
	want(t, l.Checkpoint([][]byte{}), api.OK)
	long := strings.Repeat("long", 25000)
	put(t, l, long)
	opened(t, d, long)
	d.Crash([]int{3, 4, 5})
	opened(t, d, long)
}

// P6.1: without a disk.
func TestOpenOfNoDisk(t *testing.T) {
	l, records, e := wal.Open(nil)
	if l != nil || len(records) != 0 {
		t.Fatal(l, records)
	}
	want(t, e, api.ErrArg)
}

// state is all that a Disk tells.
func state(d *disk.Disk) string {
	var out strings.Builder
	for _, name := range d.List("") {
		raw, _ := d.Read(name)
		out.WriteString(name + " " + strconv.Quote(string(raw)) + "\n")
	}
	out.WriteString(strings.Join(d.Durable(), " "))
	out.WriteString(" " + strconv.Itoa(d.Ops()) + " " + strconv.Itoa(d.Used()))
	return out.String()
}

// P6.1, P6.3: what only tells does no operation, and needs none: also on a Disk that is stopped.
func TestNoOperation(t *testing.T) {
	d := disk.New(room)
	put(t, opened(t, d), "a", "b")
	before := state(d)
	d.Fault(0, 1)
	l := opened(t, d, "a", "b")
	if state(d) != before {
		t.Fatalf("%s\nbefore: %s", state(d), before)
	}
	want(t, d.SyncDir(), api.ErrIO)
	put(t, l, "c")
	d.Stop(0)
	before = state(d)
	wantContent(t, l, []string{"a", "b", "c"})
	opened(t, d, "a", "b", "c")
	if state(d) != before {
		t.Fatalf("%s\nbefore: %s", state(d), before)
	}
}

// P6.2: how each operation's refusal is told, and that the content is what it was until a call is OK.
func TestRefusals(t *testing.T) {
	first := func(l *wal.Log) api.Errno { return l.Append([]byte("new")) }
	check := func(l *wal.Log) api.Errno { return l.Checkpoint(rows([]string{"x", "", "yz"})) }
	for _, c := range []struct {
		call   func(*wal.Log) api.Errno
		behind []string // the content, if it is OK
		anew   bool     // the Log is opened anew ahead of the call
	}{
		{first, []string{"a", "", "bc", "new"}, false},
		{first, []string{"a", "", "bc", "new"}, true},
		{check, []string{"x", "", "yz"}, false},
		{check, []string{"x", "", "yz"}, true},
	} {
		for kind := range 4 {
			refused := 0
			for after := range 12 {
				d := disk.New(room)
				l := opened(t, d)
				put(t, l, "a", "", "bc")
				if c.anew {
					l = opened(t, d, "a", "", "bc")
				}
				e := api.ErrIO
				if kind == 0 {
					e = api.ErrDead
					d.Stop(after)
				} else {
					d.Fault(after, kind)
				}
				got := c.call(l)
				content := c.behind
				if got != api.OK {
					refused++
					content = []string{"a", "", "bc"}
					want(t, got, e)
				}
				if l.Failed() != (got != api.OK) {
					t.Fatal("Failed", l.Failed(), got)
				}
				wantContent(t, l, content)
				if kind > 0 {
					spend(d)
					put(t, l, "more")
					wantContent(t, l, append(slices.Clone(content), "more"))
				}
			}
			if refused == 0 || refused == 12 {
				t.Fatalf("%d of 12 refused", refused)
			}
		}
	}
}

// P6.2: a disk that is full; what would fit is taken again.
func TestFull(t *testing.T) {
	d := disk.New(300)
	l := opened(t, d)
	want(t, l.Append(make([]byte, 301)), api.ErrFull)
	wantContent(t, l, nil)
	put(t, l, "a")
	for range 100 {
		want(t, l.Append(make([]byte, 400)), api.ErrFull)
		want(t, l.Checkpoint([][]byte{make([]byte, 150), make([]byte, 200)}), api.ErrFull)
		if !l.Failed() {
			t.Fatal("Failed")
		}
		wantContent(t, l, []string{"a"})
	}
	if n := len(d.List("wal/")); n > 3 {
		t.Fatalf("%d files behind calls that were refused", n)
	}
	put(t, l, "b")
	opened(t, d, "a", "b")
	d.Crash(nil)
	l = opened(t, d, "a", "b")
	d.SetCapacity(0)
	want(t, l.Append(nil), api.ErrFull)
	want(t, l.Checkpoint(nil), api.ErrFull)
	wantContent(t, l, []string{"a", "b"})
	d.SetCapacity(300)
	put(t, l, "", "c")
	opened(t, d, "a", "b", "", "c")
}

// P6.2: behind Checkpoint the old files are gone, durably too, and their room is free.
func TestCheckpointFreesRoom(t *testing.T) {
	d := disk.New(room)
	l := opened(t, d)
	for i := range 300 {
		put(t, l, strings.Repeat("r", 1000))
		if i%50 == 0 {
			d.Fault(i/50%5, 2)
			l.Append([]byte("perhaps refused"))
			spend(d)
			l, _, _ = wal.Open(d)
		}
	}
	if len(d.List("wal/")) < 2 {
		t.Fatal("one file alone", d.List("wal/"))
	}
	want(t, l.Checkpoint(rows([]string{"x"})), api.OK)
	if d.Used() > 100 || len(d.List("")) != 1 {
		t.Fatal(d.Used(), d.List(""))
	}
	d.Crash(nil)
	if d.Used() > 100 || len(d.List("")) != 1 {
		t.Fatal(d.Used(), d.List(""))
	}
	opened(t, d, "x")
}

// P6.2: what is behind the operation that makes a Checkpoint durable refuses it no more.
func TestRefusedRemove(t *testing.T) {
	struck := 0
	for after := range 30 {
		d := disk.New(room)
		for _, r := range []string{"a", "b", "c"} {
			l, _, _ := wal.Open(d)
			put(t, l, r)
		}
		old := d.List("wal/")
		l := opened(t, d, "a", "b", "c")
		for i := range 10 {
			d.Fault(after+i, 1)
		}
		if l.Checkpoint(rows([]string{"x"})) != api.OK {
			continue
		}
		for _, name := range old {
			if _, e := d.Read(name); e == api.OK {
				struck++
			}
		}
		wantContent(t, l, []string{"x"})
		opened(t, d, "x")
		d.Crash([]int{after, after, after})
		l = opened(t, d, "x")
		want(t, l.Checkpoint(rows([]string{"y"})), api.OK)
		if len(d.List("wal/")) != 1 {
			t.Fatal("what a refused Remove left stays for ever", d.List("wal/"))
		}
	}
	if struck == 0 {
		t.Fatal("no Remove was struck")
	}
}

// P6.2: no name but those that begin with wal/ is touched.
func TestOtherNames(t *testing.T) {
	others := []string{"a", "wal", "wal.segment-1", "walk/1", "x/wal/1", "wal-/1", "zz"}
	d := disk.New(room)
	for _, name := range others {
		d.Create(name)
		d.SyncDir()
		d.Append(name, []byte("bytes of "+name))
	}
	l := opened(t, d)
	for i := range 40 {
		d.Fault(i%7, 1+i%2)
		l.Append([]byte("r"))
		if i%5 == 0 {
			l.Checkpoint(rows([]string{"x"}))
		}
	}
	for _, name := range d.List("") {
		if !slices.Contains(others, name) && !strings.HasPrefix(name, "wal/") {
			t.Fatal("a file of the name", name)
		}
	}
	for _, name := range others {
		if raw, _ := d.Read(name); string(raw) != "bytes of "+name {
			t.Fatalf("%s: %q", name, raw)
		}
	}
	d.Crash(nil)
	for _, name := range others {
		if raw, e := d.Read(name); e != api.OK || len(raw) != 0 {
			t.Fatalf("%s was made durable: %q, %d", name, raw, e)
		}
	}
}

// P6.3: All tells the content as it is when it is ranged over, from its beginning each time, and may be stopped.
func TestAll(t *testing.T) {
	d := disk.New(room)
	l := opened(t, d)
	all := l.All()
	for range all {
		t.Fatal("a record of an empty log")
	}
	put(t, l, "a", "b")
	l = opened(t, d, "a", "b")
	all = l.All()
	put(t, l, "c", "d", "e")
	ranged := func() string {
		var out []string
		for _, r := range all {
			out = append(out, string(r))
		}
		return strings.Join(out, " ")
	}
	if ranged() != "a b c d e" || ranged() != "a b c d e" {
		t.Fatal(ranged())
	}
	for stop := range 5 {
		n := 0
		for i, r := range all {
			if i != n || string(r) != "abcde"[i:i+1] {
				t.Fatal(i, string(r))
			}
			if i == stop {
				break
			}
			n++
		}
		if n != stop {
			t.Fatal("stopped at", n, "not", stop)
		}
	}
	var got []string
	for i, r := range all {
		if i == 0 {
			want(t, l.Checkpoint(rows([]string{"x"})), api.OK)
			put(t, l, "y")
		}
		got = append(got, string(r))
	}
	if strings.Join(got, " ") != "a b c d e" || ranged() != "x y" {
		t.Fatal(got, ranged())
	}
}

// P6.3: Failed is of the last call alone.
func TestFailed(t *testing.T) {
	d := disk.New(room)
	l := opened(t, d)
	d.Fault(0, 1)
	want(t, l.Append(nil), api.ErrIO)
	if !l.Failed() {
		t.Fatal("Append was refused")
	}
	want(t, l.Checkpoint(nil), api.OK)
	if l.Failed() {
		t.Fatal("Checkpoint was OK")
	}
	d.Fault(0, 1)
	want(t, l.Checkpoint(nil), api.ErrIO)
	if !l.Failed() {
		t.Fatal("Checkpoint was refused")
	}
	if opened(t, d).Failed() {
		t.Fatal("a Log that is new")
	}
	put(t, l, "")
	wantContent(t, l, []string{""})
}

// R2: what is handed in is not changed, not kept; what is answered is nobody else's, its spare room too.
func TestMemory(t *testing.T) {
	d := disk.New(room)
	l := opened(t, d)
	spare := []byte("abcdefgh")
	put(t, l, "first")
	want(t, l.Append(spare[:3]), api.OK)
	if string(spare) != "abcdefgh" {
		t.Fatalf("%q", spare)
	}
	copy(spare, "ABCDEFGH")
	wantContent(t, l, []string{"first", "abc"})
	list := make([][]byte, 2, 3)
	list[0], list[1] = []byte("one"), []byte("two")
	want(t, l.Checkpoint(list), api.OK)
	list[0][0], list[1] = 'X', nil
	put(t, l, "three", "", "four")
	spoil := func(r []byte) {
		for i := range r {
			r[i] = '#'
		}
		for size := range 20 {
			_ = append(r, strings.Repeat("#", size)...)
		}
	}
	content := []string{"one", "two", "three", "", "four"}
	for _, l := range []*wal.Log{l, opened(t, d, content...)} {
		_, records, _ := wal.Open(d)
		for i, r := range records {
			if string(r) != content[i] {
				t.Fatalf("%q shares room with one ahead of it", r)
			}
			spoil(r)
		}
		for i, r := range l.All() {
			if string(r) != content[i] {
				t.Fatalf("%q, want %q", r, content[i])
			}
			spoil(r)
		}
		wantContent(t, l, content)
	}
	opened(t, d, content...)
}

// R4: what is done on one Disk is not seen on another.
func TestTwoDisks(t *testing.T) {
	d, other := disk.New(room), disk.New(room)
	l, m := opened(t, d), opened(t, other)
	put(t, l, "a")
	put(t, m, "b")
	put(t, l, "c")
	wantContent(t, l, []string{"a", "c"})
	opened(t, d, "a", "c")
	opened(t, other, "b")
}

// P6.2, P6.4: records of all lengths around where the numbers ahead of them grow, and of all bytes.
func TestLengths(t *testing.T) {
	d := disk.New(1 << 24)
	l := opened(t, d)
	var content []string
	b := byte(0)
	for _, size := range []int{0, 1, 2, 126, 127, 128, 129, 255, 256, 16383, 16384, 16385, 65535, 65536, 65537, 1 << 21} {
		record := bytes.Repeat([]byte{b, b + 1, b ^ 0xff}, size/3+1)[:size]
		b += 37
		want(t, l.Append(record), api.OK)
		content = append(content, string(record))
		opened(t, d, content...)
	}
	d.Crash([]int{1, 1, 1, 1})
	l = opened(t, d, content...)
	slices.Reverse(content)
	want(t, l.Checkpoint(rows(content)), api.OK)
	wantContent(t, l, content)
	d.Crash([]int{2, 2, 2, 2})
	opened(t, d, content...)
}

// P6.4, P6.5: a long log, of more bytes than a segment has by the hint, in files of about so many.
func TestLong(t *testing.T) {
	d := disk.New(1 << 26)
	l := opened(t, d)
	var content []string
	for i := range 50000 {
		r := strconv.Itoa(i) + strings.Repeat(".", i%40)
		content = append(content, r)
		want(t, l.Append([]byte(r)), api.OK)
		if i%10000 == 5000 {
			l = opened(t, d, content...)
		}
	}
	wantContent(t, l, content)
	if n, segments := len(d.List("wal/")), d.Used()/api.MaxSegment; n < segments || n > segments+10 {
		t.Fatalf("%d files for the bytes of %d", n, segments)
	}
	d.Crash([]int{7, 7, 7, 7, 7, 7})
	l = opened(t, d, content...)
	put(t, l, "end")
	opened(t, d, append(content, "end")...)
}
