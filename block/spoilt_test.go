package block_test

import (
	"bytes"
	"slices"
	"strings"
	"testing"

	"vigil/api"
	"vigil/block"
	"vigil/disk"
)

// lay puts a file on a disk, durably, in the place of one that has the name.
func lay(t *testing.T, d *disk.Disk, name string, raw []byte) {
	t.Helper()
	d.Remove(name)
	if d.Create(name) != api.OK || d.Append(name, raw) != api.OK || d.Sync(name) != api.OK || d.SyncDir() != api.OK {
		t.Fatal("the disk refuses", name)
	}
}

// only is the one file that a block has, and its bytes.
func only(t *testing.T, d *disk.Disk, name string) (string, []byte) {
	t.Helper()
	files := d.List(name + "/")
	if len(files) != 1 {
		t.Fatal(files)
	}
	raw, _ := d.Read(files[0])
	return files[0], raw
}

// spoilt lays other bytes in the place of a block's file: Open must tell it, and List go on to tell the block.
func spoilt(t *testing.T, d *disk.Disk, file string, raw []byte) {
	t.Helper()
	lay(t, d, file, raw)
	name, _, _ := strings.Cut(file, "/")
	if !slices.Contains(block.List(d), name) {
		t.Fatal("not told any more")
	}
	refused(t, d, name, api.ErrBad)
}

// P8.5: each byte of a file is changed, to all others of a small one, to some of a great one. The block beside it stays.
func TestChangedBytes(t *testing.T) {
	for _, p := range []pack{{meta: api.Meta{Name: "b", Max: 9}}, small("b"), large("b")} {
		d := disk.New(room)
		put(t, d, p, small("other"))
		file, raw := only(t, d, "b")
		for at, was := range raw {
			for x := 1; x < 256; x++ {
				if len(raw) > 1000 && x&(x-1) != 0 && x != 255 && byte(x) != was {
					continue
				}
				raw[at] = was ^ byte(x)
				spoilt(t, d, file, raw)
			}
			raw[at] = was
		}
		lay(t, d, file, raw)
		reads(t, d, p)
		reads(t, d, small("other"))
	}
}

// P8.5: a file is cut short anywhere, or has any bytes behind it.
func TestCutShort(t *testing.T) {
	for _, p := range []pack{{meta: api.Meta{Name: "b", Max: 9}}, small("b"), large("b")} {
		d := disk.New(room)
		put(t, d, p)
		file, raw := only(t, d, "b")
		for size := range raw {
			spoilt(t, d, file, raw[:size])
			spoilt(t, d, file, raw[len(raw)-size:])
		}
		for size := 1; size < 40; size++ {
			for _, c := range []byte{0, 1, 0xff, raw[0]} {
				spoilt(t, d, file, slices.Concat(raw, bytes.Repeat([]byte{c}, size)))
			}
			spoilt(t, d, file, slices.Concat(raw, raw[len(raw)-size:]))
			spoilt(t, d, file, slices.Concat(raw, raw[:size]))
		}
		spoilt(t, d, file, slices.Concat(raw, raw))
		lay(t, d, file, raw)
		reads(t, d, p)
	}
}

// P8.2: bytes behind a file whose pages are all full are told as well.
func TestFullPages(t *testing.T) {
	full := 0
	for n := 1; n <= api.MaxLabel; n++ {
		d := disk.New(room)
		p := pack{meta: api.Meta{Name: "b", Max: 9}, series: []api.Series{row("a="+strings.Repeat("v", n), 1)}}
		put(t, d, p)
		file, raw := only(t, d, "b")
		if len(raw)%1024 != 0 {
			continue
		}
		full++
		for size := 1; size < 1100; size++ {
			spoilt(t, d, file, slices.Concat(raw, make([]byte, size)))
		}
		spoilt(t, d, file, slices.Concat(raw, raw))
	}
	if full == 0 {
		t.Fatal("no file has full pages alone")
	}
}

// P8.2: pages that stand elsewhere, twice or not at all; bytes that are exchanged, zeroed or drawn anyhow.
func TestPagesMixedUp(t *testing.T) {
	const page = 1024
	d := disk.New(room)
	p := large("b")
	p.series = append(p.series, long("z=1", 2000))
	put(t, d, p)
	file, raw := only(t, d, "b")
	count := len(raw) / page
	if count < 5 {
		t.Fatal("of too few pages", count)
	}
	part := func(i int) []byte { return raw[i*page : min((i+1)*page, len(raw))] }
	for i := range count {
		spoilt(t, d, file, slices.Concat(raw[:i*page], raw[(i+1)*page:]))
		spoilt(t, d, file, slices.Concat(raw[:i*page], part(i), raw[i*page:]))
		spoilt(t, d, file, slices.Concat(raw[:i*page], make([]byte, page), raw[(i+1)*page:]))
		for j := range count {
			if i != j {
				mixed := slices.Clone(raw)
				copy(mixed[i*page:], part(j))
				spoilt(t, d, file, mixed)
				copy(mixed[j*page:], part(i))
				spoilt(t, d, file, mixed)
			}
		}
	}
	n := numbers(5)
	for range 3000 {
		mixed := slices.Clone(raw)
		for range 1 + n.below(20) {
			mixed[n.below(len(mixed))] = byte(n.below(256))
		}
		if !bytes.Equal(mixed, raw) {
			spoilt(t, d, file, mixed)
		}
	}
	for size := range 200 {
		drawn := make([]byte, size)
		for i := range drawn {
			drawn[i] = byte(n.below(256))
		}
		spoilt(t, d, file, drawn)
		spoilt(t, d, file, make([]byte, size))
	}
	lay(t, d, file, raw)
	reads(t, d, p)
}

// P8.2: a block's file under the name of another one is not as Write made it.
func TestOtherBlocksFile(t *testing.T) {
	d := disk.New(room)
	put(t, d, small("b1"), small("b2"), small("b"), large("c1"))
	_, raw := only(t, d, "b1")
	for _, name := range []string{"b2", "b", "c1"} {
		file, own := only(t, d, name)
		spoilt(t, d, file, raw)
		lay(t, d, file, own)
	}
	file, _ := only(t, d, "b1")
	lay(t, d, strings.Replace(file, "b1", "b9", 1), raw)
	wantList(t, d, "b", "b1", "b2", "b9", "c1")
	refused(t, d, "b9", api.ErrBad)
	reads(t, d, small("b1"))
	reads(t, d, large("c1"))
}

// P8.2: a block whose file is gone is told no more, and one that is bad is in the way until it is removed.
func TestGoneOrBad(t *testing.T) {
	for _, durably := range []bool{false, true} {
		d := disk.New(room)
		put(t, d, small("b1"), large("b2"))
		file, raw := only(t, d, "b1")
		d.Remove(file)
		if durably {
			d.SyncDir()
		}
		wantList(t, d, "b2")
		refused(t, d, "b1", api.ErrNone)
		want(t, block.Remove(d, "b1"), api.ErrNone)
		put(t, d, large("b1"))
		d.Crash(nil)
		reads(t, d, large("b1"))
		raw[9]++
		spoilt(t, d, file, raw)
		want(t, write(d, small("b1")), api.ErrThere)
		want(t, block.Remove(d, "b1"), api.OK)
		wantList(t, d, "b2")
		put(t, d, small("b1"))
		reads(t, d, large("b2"))
	}
}

// P8.2, R1: files whose sums are right, but that no Write would have made, are bad, or at least right blocks.
func TestForgedFiles(t *testing.T) {
	for _, p := range []pack{small("b"), large("b")} {
		d := disk.New(room)
		put(t, d, p)
		file, raw := only(t, d, "b")
		held, ok := block.Unsealed(raw)
		if !ok || !bytes.Equal(block.Sealed(held), raw) {
			t.Fatal("the pages are not those of the file")
		}
		forged := func(held []byte) {
			t.Helper()
			lay(t, d, file, block.Sealed(held))
			b, e := block.Open(d, "b")
			if e == api.OK {
				if x := told(b); x.meta.Name != "b" || !block.Right(x.meta, x.series, x.gone) {
					t.Fatal("a wrong block is told", x.spelt())
				}
				return
			}
			want(t, e, api.ErrBad)
		}
		for at, was := range held {
			for _, x := range []byte{1, 2, 0x7f, 0x80, 0xff} {
				held[at] = was ^ x
				forged(held)
			}
			held[at] = was
			refusedForged(t, d, file, held[:at])
			forged(slices.Concat(held[:at], held[at+1:]))
			forged(slices.Concat(held[:at], bytes.Repeat([]byte{0xff}, 8), held[at:]))
		}
		refusedForged(t, d, file, append(held, 0))
		_, untitled, _ := bytes.Cut(held, []byte("\n"))
		refusedForged(t, d, file, untitled)
		lay(t, d, file, raw)
		reads(t, d, p)
	}
}

func refusedForged(t *testing.T, d *disk.Disk, file string, held []byte) {
	t.Helper()
	lay(t, d, file, block.Sealed(held))
	refused(t, d, "b", api.ErrBad)
}

// P8.5: pages of all sizes are read as they were sealed, and not where one byte differs.
func TestPages(t *testing.T) {
	n := numbers(8)
	for size := range 3100 {
		held := make([]byte, size)
		for i := range held {
			held[i] = byte(n.below(256))
		}
		raw := block.Sealed(held)
		if got, ok := block.Unsealed(raw); !ok || !bytes.Equal(got, held) {
			t.Fatal("of", size)
		}
		for range 5 {
			if size == 0 {
				continue
			}
			at := n.below(len(raw))
			raw[at] ^= byte(1 + n.below(255))
			if _, ok := block.Unsealed(raw); ok {
				t.Fatal("of", size, "at", at)
			}
			raw = block.Sealed(held)
		}
		if size > 0 {
			if _, ok := block.Unsealed(raw[:len(raw)-1]); ok {
				t.Fatal("cut short", size)
			}
			if _, ok := block.Unsealed(make([]byte, size)); ok {
				t.Fatal("noughts", size)
			}
		}
		if i, j := n.below(size+1), n.below(size+1); i < size && j < size && raw[i] != raw[j] {
			raw[i], raw[j] = raw[j], raw[i]
			if _, ok := block.Unsealed(raw); ok {
				t.Fatal("exchanged", size, i, j)
			}
			raw = block.Sealed(held)
		}
		if _, ok := block.Unsealed(append(raw, 0)); ok {
			t.Fatal("with a byte more", size)
		}
	}
}

// P8.2: a page that stands elsewhere than it was sealed for is told by its sum, and so is one that holds nothing.
func TestPagesElsewhere(t *testing.T) {
	const page = 1024
	n := numbers(9)
	held := make([]byte, 4*page)
	for i := range held {
		held[i] = byte(n.below(256))
	}
	raw := block.Sealed(held)
	for _, x := range []struct {
		why string
		raw []byte
	}{
		{"the first two exchanged", slices.Concat(raw[page:2*page], raw[:page], raw[2*page:])},
		{"one twice", slices.Concat(raw[:page], raw)},
		{"one left out", slices.Concat(raw[:page], raw[2*page:])},
		{"the first left out", raw[page:]},
		{"the last left out, and one of nothing", slices.Concat(raw[:4*page], block.SealedAt(4*page, nil))},
		{"one of nothing alone", block.SealedAt(0, nil)},
	} {
		if _, ok := block.Unsealed(x.raw); ok {
			t.Error(x.why)
		}
	}
	first := block.SealedAt(0, held[:page-8])
	if !bytes.Equal(first, raw[:page]) {
		t.Fatal("SealedAt is not as Sealed")
	}
	if got, ok := block.Unsealed(slices.Concat(first, block.SealedAt(page, held[page-8:page]))); !ok || !bytes.Equal(got, held[:page]) {
		t.Fatal("pages in their places")
	}
}
