package funcs

import (
	"slices"
	"strings"

	"vigil/api"
	"vigil/expand"
	"vigil/labels"
	"vigil/regex"
)

// Replace makes a label of another one.
func Replace(l []api.Label, dst, replacement, src, re string) ([]api.Label, api.Errno) {
	if !labels.RightName(dst) {
		return nil, api.ErrName
	}
	prog, _, e := regex.Compile(re)
	if e != api.OK {
		return nil, api.ErrForm
	}
	text := labels.Get(l, src)
	groups, ok := prog.Groups(text)
	if !ok {
		return slices.Clone(l), api.OK
	}
	return with(l, dst, expand.Label(replacement, text, groups))
}

// Join makes a label of several.
func Join(l []api.Label, dst, sep string, srcs []string) ([]api.Label, api.Errno) {
	if !labels.RightName(dst) {
		return nil, api.ErrName
	}
	for _, name := range srcs {
		if !labels.RightName(name) {
			return nil, api.ErrName
		}
	}
	return with(l, dst, joined(l, sep, srcs))
}

// joined is the values of those names, sep between; it goes no further than a value may be long, since many long ones may come to more than any memory holds.
func joined(l []api.Label, sep string, srcs []string) string {
	var out strings.Builder
	for i, name := range srcs {
		if out.Len() > api.MaxLabel {
			break
		}
		if i > 0 {
			out.WriteString(sep)
		}
		out.WriteString(labels.Get(l, name))
	}
	return out.String()
}

// with is l with that label; ErrBad, if its value is not right, or if that are too many labels.
func with(l []api.Label, name, value string) ([]api.Label, api.Errno) {
	if value != "" && !labels.Right([]api.Label{{Name: name, Value: value}}) {
		return nil, api.ErrBad
	}
	out := labels.With(l, name, value)
	if len(out) > api.MaxLabels {
		return nil, api.ErrBad
	}
	return out, api.OK
}
