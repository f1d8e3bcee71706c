package head

import (
	"slices"

	"vigil/api"
	"vigil/labels"
	"vigil/regex"
)

// Matches: do all matchers mean a label set?
func Matches(ms []api.Matcher, l []api.Label) (bool, api.Errno) {
	tests, e := compiled(ms)
	if e != api.OK {
		return false, e
	}
	return passes(tests, l), api.OK
}

// test is a matcher, with its expression as a program if it has one.
type test struct {
	matcher api.Matcher
	prog    *regex.Prog
}

// compiled is the tests of all matchers.
func compiled(ms []api.Matcher) ([]test, api.Errno) {
	for _, m := range ms {
		if m.Kind < api.Equal || m.Kind > api.NotMatch {
			return nil, api.ErrArg
		}
	}
	var tests []test
	for _, m := range ms {
		t := test{matcher: m}
		if m.Kind == api.Match || m.Kind == api.NotMatch {
			prog, _, e := regex.Compile(m.Value)
			if e != api.OK {
				return nil, api.ErrForm
			}
			t.prog = prog
		}
		tests = append(tests, t)
	}
	return tests, api.OK
}

// means tells whether a value of the matcher's label is meant; of no such label it is empty.
func (t test) means(value string) bool {
	switch t.matcher.Kind {
	case api.Equal:
		return value == t.matcher.Value
	case api.NotEqual:
		return value != t.matcher.Value
	case api.Match:
		return t.prog.Match(value)
	}
	return !t.prog.Match(value)
}

// passes tells whether all tests mean a label set.
func passes(tests []test, l []api.Label) bool {
	for _, t := range tests {
		if !t.means(labels.Get(l, t.matcher.Name)) {
			return false
		}
	}
	return true
}

// index finds series by a label's Name, then by its Value.
type index map[string]map[string][]*series

// add puts a series into the list of each of its labels.
func (x index) add(s *series) {
	for name, value := range labels.All(s.labels) {
		values := x[name]
		if values == nil {
			values = map[string][]*series{}
			x[name] = values
		}
		values[value] = append(values[value], s)
	}
}

// meant is the series that have the test's label, with a value that it means.
func (x index) meant(t test) []*series {
	if t.matcher.Kind == api.Equal {
		return x[t.matcher.Name][t.matcher.Value]
	}
	var out []*series
	for value, l := range x[t.matcher.Name] {
		if t.means(value) {
			out = append(out, l...)
		}
	}
	return out
}

// meant is the series that all matchers mean, rising by their labels.
func (h *Head) meant(ms []api.Matcher) ([]*series, api.Errno) {
	tests, e := compiled(ms)
	if e != api.OK {
		return nil, e
	}
	var out []*series
	for _, s := range h.narrowed(tests) {
		if passes(tests, s.labels) {
			out = append(out, s)
		}
	}
	slices.SortFunc(out, byLabels)
	return out, api.OK
}

// narrowed is some few series, with all among them that the tests mean.
func (h *Head) narrowed(tests []test) []*series {
	least := h.ordered()
	for _, t := range tests {
		if t.means("") {
			continue // series without the label are meant too, and stand in no list of it
		}
		if l := h.index.meant(t); len(l) < len(least) {
			least = l
		}
	}
	return least
}
