package block

import (
	"slices"

	"vigil/api"
	"vigil/labels"
)

// mostName is how many bytes a block's name has at most.
const mostName = 24

// Right: may they be laid down?
func Right(m api.Meta, series []api.Series, gone []api.Gone) bool {
	return rightMeta(m) && rightSeries(m, series) && rightGone(series, gone)
}

func rightName(name string) bool {
	if len(name) < 1 || len(name) > mostName {
		return false
	}
	for i := range len(name) {
		if c := name[i]; !('a' <= c && c <= 'z' || '0' <= c && c <= '9') {
			return false
		}
	}
	return true
}

func rightMeta(m api.Meta) bool {
	return rightName(m.Name) && -api.MaxTime <= m.Min && m.Min < m.Max && m.Max <= api.MaxTime+1 && m.Level >= 0
}

func rightSeries(m api.Meta, series []api.Series) bool {
	for i, s := range series {
		if !labels.Right(s.Labels) || !rightSamples(m, s.Samples) {
			return false
		}
		if i > 0 && labels.Compare(series[i-1].Labels, s.Labels) >= 0 {
			return false
		}
	}
	return true
}

func rightSamples(m api.Meta, l []api.Sample) bool {
	for i, x := range l {
		if x.T < m.Min || x.T >= m.Max || i > 0 && l[i-1].T >= x.T {
			return false
		}
	}
	return len(l) > 0
}

func rightGone(series []api.Series, gone []api.Gone) bool {
	for _, x := range gone {
		if _, ok := numberOf(series, x.Labels); !ok || x.Min > x.Max {
			return false
		}
	}
	return true
}

// numberOf is where the series of these labels stands among series that rise by theirs.
func numberOf(series []api.Series, l []api.Label) (int, bool) {
	return slices.BinarySearchFunc(series, l, func(s api.Series, l []api.Label) int { return labels.Compare(s.Labels, l) })
}
