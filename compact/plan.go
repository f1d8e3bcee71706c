package compact

import (
	"cmp"
	"slices"

	"vigil/api"
)

// member is a block and where a span begins that it stands in.
type member struct {
	begin int
	meta  api.Meta
}

// Removed is the Names of the blocks that have nothing from the horizon on.
func Removed(metas []api.Meta, horizon int) []string {
	var names []string
	for _, m := range metas {
		if within(m.Max) <= within(horizon) {
			names = append(names, m.Name)
		}
	}
	return names
}

// Plan is the Names of the blocks that become one, if any do.
func Plan(metas []api.Meta, newest, width int) []string {
	// Spans longer than all times are alike, however long they are: so the longest one fits into a number.
	width = min(max(width, 1), api.MaxTime+1)
	for level, span := range []int{3 * width, 9 * width} {
		lot := firstLot(members(metas, level, within(newest), span))
		if len(lot) > 0 {
			return lot
		}
	}
	return nil
}

// Joined is the Meta of the one block that those of these names become; false, if they are fewer than two.
func Joined(metas []api.Meta, names []string) (api.Meta, bool) {
	named := map[string]struct{}{}
	for _, name := range names {
		named[name] = struct{}{}
	}
	var one api.Meta
	met := 0
	for _, m := range metas {
		if _, ok := named[m.Name]; !ok {
			continue
		}
		if met == 0 {
			one = m
		}
		one.Min, one.Max, one.Level = min(one.Min, m.Min), max(one.Max, m.Max), max(one.Level, m.Level)
		met++
	}
	if met < 2 {
		return api.Meta{}, false
	}
	one.Name = ""
	one.Level++
	return one, true
}

// members is the blocks of a Level in the spans that are past, in the order in which Plan tells them.
func members(metas []api.Meta, level, newest, span int) []member {
	var l []member
	for _, m := range metas {
		if m.Level != level {
			continue
		}
		m.Min, m.Max = within(m.Min), within(m.Max)
		first, last := min(m.Min, m.Max), max(m.Min, m.Max)
		// Where two spans meet, what has no length stands in both.
		for b := below(last-1, span); b <= first && b+span <= newest; b += span {
			l = append(l, member{begin: b, meta: m})
		}
	}
	slices.SortFunc(l, func(a, b member) int {
		return cmp.Or(cmp.Compare(a.begin, b.begin), cmp.Compare(a.meta.Min, b.meta.Min), cmp.Compare(a.meta.Name, b.meta.Name))
	})
	return l
}

// firstLot is the Names of the first span's blocks that are two or more.
func firstLot(l []member) []string {
	for len(l) > 0 {
		n := 1
		for n < len(l) && l[n].begin == l[0].begin {
			n++
		}
		if n > 1 {
			return names(l[:n])
		}
		l = l[n:]
	}
	return nil
}

func names(l []member) []string {
	out := make([]string, len(l))
	for i, x := range l {
		out[i] = x.meta.Name
	}
	return out
}
