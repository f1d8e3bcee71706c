package labels

import (
	"strings"

	"vigil/api"
)

// The numbers of the hash.
const (
	hashStart = 14695981039346656037
	hashTimes = 1099511628211
)

// Bytes writes a set as bytes.
func Bytes(l []api.Label) []byte {
	size := 1
	for name, value := range each(l) {
		size += 4 + len(name) + len(value)
	}
	raw := make([]byte, 0, size)
	raw = append(raw, byte(len(l)))
	for name, value := range each(l) {
		raw = appendText(raw, name)
		raw = appendText(raw, value)
	}
	return raw
}

// Read reads the set that Bytes wrote.
func Read(raw []byte) ([]api.Label, api.Errno) {
	if len(raw) == 0 {
		return nil, api.ErrForm
	}
	count, rest := int(raw[0]), raw[1:]
	if count > api.MaxLabels {
		return nil, api.ErrForm
	}
	set := make([]api.Label, 0, count)
	for range count {
		var x api.Label
		var okName, okValue bool
		x.Name, rest, okName = cutText(rest)
		x.Value, rest, okValue = cutText(rest)
		if !okName || !okValue {
			return nil, api.ErrForm
		}
		set = append(set, x)
	}
	if len(rest) > 0 || !Right(set) {
		return nil, api.ErrForm
	}
	return set, api.OK
}

// Hash is a fingerprint of the set's bytes.
func Hash(l []api.Label) uint64 {
	h := uint64(hashStart)
	for _, b := range Bytes(l) {
		h = (h ^ uint64(b)) * hashTimes
	}
	return h
}

// Text writes a set as queries do.
func Text(l []api.Label) string {
	var out strings.Builder
	metric := Get(l, metricLabel)
	out.WriteString(metric)
	others := 0
	for name, value := range each(l) {
		if name == metricLabel {
			continue
		}
		if others == 0 {
			out.WriteByte('{')
		} else {
			out.WriteByte(',')
		}
		others++
		out.WriteString(name)
		out.WriteByte('=')
		writeQuoted(&out, value)
	}
	switch {
	case others > 0:
		out.WriteByte('}')
	case metric == "":
		out.WriteString("{}")
	}
	return out.String()
}

// appendText writes a text behind its length.
func appendText(raw []byte, s string) []byte {
	raw = append(raw, byte(len(s)>>8), byte(len(s)))
	return append(raw, s...)
}

// cutText reads what appendText wrote, and tells what stands behind it.
func cutText(raw []byte) (string, []byte, bool) {
	if len(raw) < 2 {
		return "", nil, false
	}
	size, rest := int(raw[0])<<8|int(raw[1]), raw[2:]
	if size > len(rest) {
		return "", nil, false
	}
	return string(rest[:size]), rest[size:], true
}

// writeQuoted writes a Value so that its end can be told.
func writeQuoted(out *strings.Builder, value string) {
	out.WriteByte('"')
	for i := range len(value) {
		switch b := value[i]; b {
		case '"', '\\':
			out.WriteByte('\\')
			out.WriteByte(b)
		case '\n':
			out.WriteString(`\n`)
		default:
			out.WriteByte(b)
		}
	}
	out.WriteByte('"')
}
