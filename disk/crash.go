package disk

import (
	"maps"
	"slices"
	"strings"
)

// directory says which file each name names.
type directory map[string]*file

// change takes old away, if it is there, and lets name, if it is there, name the file. No right name is empty.
type change struct {
	old, name string
	file      *file
}

func (l directory) do(c change) {
	if c.old != "" {
		delete(l, c.old)
	}
	if c.name != "" {
		l[c.name] = c.file
	}
}

func (l directory) rising(prefix string) []string {
	var out []string
	for name := range l {
		if strings.HasPrefix(name, prefix) {
			out = append(out, name)
		}
	}
	slices.Sort(out)
	return out
}

// apply copies the names: what is handed in is not kept, nor the longer text that a name may be a piece of.
func (d *Disk) apply(c change) {
	c.old, c.name = strings.Clone(c.old), strings.Clone(c.name)
	d.names.do(c)
	d.pending = append(d.pending, c)
}

// settle makes the first changes durable; the rest pends no more.
func (d *Disk) settle(n int) {
	for _, c := range d.pending[:n] {
		d.durable.do(c)
	}
	d.pending = nil
}

// cut is the number that cuts has at i, brought to 0 to most.
func cut(cuts []int, i, most int) int {
	if i >= len(cuts) {
		return 0
	}
	n := most + 1
	return (cuts[i]%n + n) % n
}

// Crash loses what was not durable, but for what cuts leave.
func (d *Disk) Crash(cuts []int) {
	d.settle(cut(cuts, 0, len(d.pending)))
	d.used = 0
	for i, name := range d.durable.rising("") {
		f := d.durable[name]
		f.durable += cut(cuts, i+1, len(f.bytes)-f.durable)
		f.bytes = f.bytes[:f.durable]
		d.used += f.durable
	}
	d.names = maps.Clone(d.durable)
	clear(d.faults)
	d.stop = never
}
