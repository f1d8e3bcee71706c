package labels_test

import (
	"bytes"
	"hash/fnv"
	"slices"
	"strings"
	"testing"

	"vigil/api"
	"vigil/labels"
)

// sets is all sets of at most three labels of few names and values.
func sets() [][]api.Label {
	out := [][]api.Label{nil}
	for _, name := range []string{"__name__", "a", "ab", "b"} {
		for _, l := range slices.Clone(out) {
			for _, value := range []string{"a", "ab", "b", "aé"} {
				if x := labels.With(l, name, value); len(x) < 4 && labels.Right(x) {
					out = append(out, x)
				}
			}
		}
	}
	return out
}

func TestCompare(t *testing.T) {
	for i, x := range []struct {
		a, b []api.Label
		want int
	}{
		{of("a=1"), of("a=1", "b=1"), -1},
		{of("a=2"), of("a=1", "b=1"), 1},
		{of("b=1"), of("a=1"), 1},
		{of("b=1"), of("a=2"), 1},
		{of("a=1"), of("a=1"), 0},
		{nil, nil, 0},
		{nil, of("a=1"), -1},
		{of("a=1"), of("ab=1"), -1},
		{of("a=1"), of("a=11"), -1},
		{of("a=b", "b=a"), of("a=a", "c=a"), 1},
		{of("Z=1"), of("a=1"), -1},
		{of("a=é"), of("a=z"), 1},
	} {
		if got := labels.Compare(x.a, x.b); got != x.want {
			t.Errorf("%d: Compare is %d", i, got)
		}
		if got := labels.Compare(x.b, x.a); got != -x.want {
			t.Errorf("%d: Compare the other way is %d", i, got)
		}
	}
}

// byHand is the order as the chapter says it.
func byHand(a, b []api.Label) int {
	for i := 0; i < len(a) && i < len(b); i++ {
		switch {
		case a[i].Name < b[i].Name:
			return -1
		case a[i].Name > b[i].Name:
			return 1
		case a[i].Value < b[i].Value:
			return -1
		case a[i].Value > b[i].Value:
			return 1
		}
	}
	switch {
	case len(a) < len(b):
		return -1
	case len(a) > len(b):
		return 1
	}
	return 0
}

func TestCompareIsAnOrder(t *testing.T) {
	all := sets()
	for _, a := range all {
		for _, b := range all {
			c := labels.Compare(a, b)
			if c != byHand(a, b) || c != -labels.Compare(b, a) || (c == 0) != slices.Equal(a, b) {
				t.Fatalf("Compare of %q and %q is %d", a, b, c)
			}
		}
	}
	slices.SortFunc(all, labels.Compare)
	for i := range all {
		for j := range all {
			if i < j && labels.Compare(all[i], all[j]) != -1 {
				t.Fatalf("%q is not below %q", all[i], all[j])
			}
		}
	}
}

func TestBytes(t *testing.T) {
	long := strings.Repeat("y", 1024)
	for want, l := range map[string][]api.Label{
		"\x00":                   nil,
		"\x01\x00\x01a\x00\x011": of("a=1"),
		"\x02\x00\x01a\x00\x02xy\x00\x02bc\x00\x01z": of("a=xy", "bc=z"),
		"\x01\x00\x01a\x00\x02é":                     of("a=é"),
		"\x01\x04\x00" + long + "\x04\x00" + long:    of(long + "=" + long),
		"\x01\x00\x01a\x01\x03" + long[:259]:         of("a=" + long[:259]),
	} {
		raw := labels.Bytes(l)
		if string(raw) != want {
			t.Errorf("Bytes of %q are %x", l, raw)
		}
		in := slices.Clone(raw)
		got, e := labels.Read(in)
		for i := range in {
			in[i] = 'q'
		}
		if e != api.OK || !slices.Equal(got, l) {
			t.Errorf("Read of %x is %q %d", want, got, e)
		}
	}
}

func TestBytesOfUnlikeSets(t *testing.T) {
	seen := map[string]bool{}
	for _, l := range append(sets(), numbered(64), numbered(63)) {
		raw := labels.Bytes(l)
		if seen[string(raw)] {
			t.Fatalf("Bytes of %q stand twice", l)
		}
		seen[string(raw)] = true
		if got, e := labels.Read(raw); e != api.OK || !slices.Equal(got, l) {
			t.Fatalf("Read of the Bytes of %q is %q %d", l, got, e)
		}
	}
}

func TestReadRefuses(t *testing.T) {
	long := strings.Repeat("y", 1025)
	for _, raw := range []string{
		"", "\x00\x00", "\x01", "\x01\x00", "\x01\x00\x01", "\x01\x00\x01a", "\x01\x00\x01a\x00", "\x01\x00\x01a\x00\x01", "\x01\x00\x01a\x00\x011x",
		"\x01\x00\x01a\x00\x00", "\x01\x00\x00\x00\x011", "\x01\x00\x010\x00\x011", "\x01\x00\x01:\x00\x011", "\x01\x00\x01a\x00\x01\xff",
		"\x02\x00\x01a\x00\x011", "\x00\x00\x01a\x00\x011", "\xff\x00\x01a\x00\x011", "\x01\x01\x00a\x00\x011", "\x01\x00\x01a\x01\x001",
		"\x02\x00\x01b\x00\x011\x00\x01a\x00\x011", "\x02\x00\x01a\x00\x011\x00\x01a\x00\x011", "\x02\x00\x01a\x00\x011\x00\x01a\x00\x012",
		"\x01\x00\x08__name__\x00\x01-", "\x01\x00\x01a\x04\x01" + long, "\x01\x04\x01" + long + "\x00\x011", "\x01\xff\xff",
		string(labels.Bytes(numbered(65))),
	} {
		if l, e := labels.Read([]byte(raw)); e != api.ErrForm || len(l) > 0 {
			t.Errorf("Read of %q is %q %d", raw, l, e)
		}
	}
}

// Whatever a byte is changed to, what is read is the one set of these bytes.
func TestReadOfChangedBytes(t *testing.T) {
	for _, l := range [][]api.Label{of("__name__=up", "a=xy", "b=é"), of("a=1")} {
		whole := labels.Bytes(l)
		for i := range whole {
			if _, e := labels.Read(whole[:i]); e != api.ErrForm {
				t.Errorf("the first %d bytes are read", i)
			}
			for b := range 256 {
				raw := slices.Clone(whole)
				raw[i] = byte(b)
				got, e := labels.Read(raw)
				if e == api.OK && (!labels.Right(got) || !bytes.Equal(labels.Bytes(got), raw)) {
					t.Errorf("Read of %x is %q", raw, got)
				}
				if e != api.OK && (e != api.ErrForm || len(got) > 0) {
					t.Errorf("Read of %x is %q %d", raw, got, e)
				}
			}
		}
	}
}

func TestHash(t *testing.T) {
	if h := labels.Hash(nil); h != 12638153115695167455 {
		t.Error("Hash of none is", h)
	}
	for _, l := range append(sets(), numbered(64)) {
		h := fnv.New64a()
		h.Write(labels.Bytes(l))
		if labels.Hash(l) != h.Sum64() {
			t.Errorf("Hash of %q is %d", l, labels.Hash(l))
		}
	}
}

func TestText(t *testing.T) {
	for want, l := range map[string][]api.Label{
		`up{job="x\\y"}`:               of("__name__=up", `job=x\y`),
		`{}`:                           nil,
		`{a="1"}`:                      of("a=1"),
		`up`:                           of("__name__=up"),
		`{a="1",b="2"}`:                of("a=1", "b=2"),
		`a:b{Z="1",_="2",b="3"}`:       of("Z=1", "__name__=a:b", "_=2", "b=3"),
		`{a="\"\\\n` + "\t\réx" + `"}`: of("a=\"\\\n\t\réx"),
		`{a="\\n"}`:                    of(`a=\n`),
		`{a=",}="}`:                    of("a=,}="),
	} {
		if got := labels.Text(l); got != want {
			t.Errorf("Text is %s, not %s", got, want)
		}
	}
}

// Sets that are not right: nothing is promised but that the calls end.
func TestWrongSets(t *testing.T) {
	long := strings.Repeat("y", 70000)
	for _, l := range [][]api.Label{of("b=1", "a=1", "b=2"), of("=", "="), of("a="+long, long+"=1"), numbered(300), of("__name__=", "__name__=x")} {
		labels.Get(l, "b")
		labels.With(l, "b", "3")
		labels.Only(l, []string{"b"})
		labels.But(l, []string{"b"})
		labels.Compare(l, of("a=1"))
		labels.Read(labels.Bytes(l))
		labels.Hash(l)
		labels.Text(l)
		labels.Is(l, api.Matcher{Kind: api.Equal, Name: "b"})
		for range labels.All(l) {
			break
		}
	}
}
