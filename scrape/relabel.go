package scrape

import (
	"slices"
	"strings"

	"vigil/api"
	"vigil/expand"
	"vigil/labels"
	"vigil/num"
	"vigil/regex"
)

// The numbers by which labels.Hash reckons.
const (
	sumStart = 14695981039346656037
	sumTimes = 1099511628211
)

// rule is a right rule with its expression, ready to be done many times.
type rule struct {
	api.Relabel
	prog *regex.Prog
}

// Right tells whether the rule can be done.
func Right(r api.Relabel) bool {
	_, ok := ready(r)
	return ok
}

// Relabel does the rules one behind the other; false, if the set has gone.
func Relabel(l []api.Label, rules []api.Relabel) ([]api.Label, bool) {
	return relabelled(slices.Clone(l), readyRules(rules))
}

// ready is the rule with its expression; false, if it is not right.
func ready(r api.Relabel) (rule, bool) {
	switch r.Action {
	case api.Replace:
		if r.Target == "" {
			return rule{}, false
		}
	case api.HashMod:
		if r.Modulus < 1 || !labels.RightName(r.Target) {
			return rule{}, false
		}
	case api.Lower, api.Upper:
		if !labels.RightName(r.Target) {
			return rule{}, false
		}
	case api.Keep, api.Drop, api.LabelMap, api.LabelDrop, api.LabelKeep:
	default:
		return rule{}, false
	}
	for _, name := range r.Sources {
		if !labels.RightName(name) {
			return rule{}, false
		}
	}
	prog, _, e := regex.Compile(r.Regex)
	return rule{r, prog}, e == api.OK
}

// readyRules is those of the rules that are right.
func readyRules(l []api.Relabel) []rule {
	var out []rule
	for _, r := range l {
		if x, ok := ready(r); ok {
			out = append(out, x)
		}
	}
	return out
}

// relabelled does the rules with a set that nobody else has; none and false, if it goes.
func relabelled(set []api.Label, rules []rule) ([]api.Label, bool) {
	kept := true
rules:
	for _, r := range rules {
		switch r.Action {
		case api.Replace:
			text := r.text(set)
			groups, ok := r.prog.Groups(text)
			if !ok {
				continue rules
			}
			set = put(set, expand.Label(r.Target, text, groups), expand.Label(r.Replacement, text, groups))
		case api.Keep, api.Drop:
			kept = r.prog.Match(r.text(set)) == (r.Action == api.Keep)
			if !kept {
				break rules
			}
		case api.HashMod:
			set = put(set, r.Target, num.IntText(int(sum(r.text(set))%uint64(r.Modulus))))
		case api.LabelMap:
			set = r.mapped(set)
		case api.LabelDrop, api.LabelKeep:
			set = slices.DeleteFunc(set, func(x api.Label) bool {
				return r.prog.Match(x.Name) == (r.Action == api.LabelDrop)
			})
		case api.Lower:
			set = put(set, r.Target, turned(r.text(set), 'A', 'Z'))
		case api.Upper:
			set = put(set, r.Target, turned(r.text(set), 'a', 'z'))
		}
	}
	if !kept {
		return nil, false
	}
	return set, true
}

// text is the values of the rule's Sources with its Separator between.
func (r rule) text(set []api.Label) string {
	values := make([]string, 0, len(r.Sources))
	for _, name := range r.Sources {
		values = append(values, labels.Get(set, name))
	}
	return strings.Join(values, r.Separator)
}

// mapped is the set with the labels of a LabelMap put in.
func (r rule) mapped(was []api.Label) []api.Label {
	set := was
	for _, x := range was {
		if groups, ok := r.prog.Groups(x.Name); ok {
			set = put(set, expand.Label(r.Replacement, x.Name, groups), x.Value)
		}
	}
	return set
}

// put gives the label of that name its value, by which it is lost if that is empty. A set that would be a wrong one by it stays as it was.
func put(set []api.Label, name, value string) []api.Label {
	switch {
	case !labels.RightName(name):
		return set
	case value == "":
	case !labels.Right([]api.Label{{Name: name, Value: value}}):
		return set
	case len(set) >= api.MaxLabels && labels.Get(set, name) == "":
		return set
	}
	return labels.With(set, name, value)
}

// sum reckons over a text's bytes as labels.Hash does over those of a set.
func sum(text string) uint64 {
	h := uint64(sumStart)
	for i := range len(text) {
		h = (h ^ uint64(text[i])) * sumTimes
	}
	return h
}

// turned is the text with its letters from first to last turned into those of the other kind.
func turned(text string, first, last byte) string {
	out := []byte(text)
	for i, b := range out {
		if first <= b && b <= last {
			out[i] = b ^ ('a' ^ 'A')
		}
	}
	return string(out)
}
