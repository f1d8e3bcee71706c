package regex

// The kinds of steps.
const (
	takeStep  = iota // takes a character of its class
	startStep        // goes on at the text's beginning
	endStep          // goes on at the text's end
	noteStep         // notes the place in its slot
	forkStep         // to first, then to second
	jumpStep         // to first
	yesStep          // says yes at the text's end
)

// step is one of a program.
type step struct {
	kind          int
	class         []span
	slot          int
	first, second int
}

// writer writes an expression's steps.
type writer struct{ steps []step }

// add writes a step, and answers where it stands.
func (w *writer) add(s step) int {
	w.steps = append(w.steps, s)
	return len(w.steps) - 1
}

// fork writes a fork whose ends are not yet known.
func (w *writer) fork() int { return w.add(step{kind: forkStep}) }

// lead says where a fork goes; a lazy one goes into its repeat's thing last.
func (w *writer) lead(fork, in, on int, lazy bool) {
	if lazy {
		in, on = on, in
	}
	w.steps[fork].first, w.steps[fork].second = in, on
}

// write writes the steps of a node.
func (w *writer) write(n *node) {
	// Repeats of what has no steps, one within another, would take more time than there is.
	if n.size == 0 {
		return
	}
	switch n.kind {
	case takeNode:
		w.add(step{kind: takeStep, class: n.class})
	case startNode:
		w.add(step{kind: startStep})
	case endNode:
		w.add(step{kind: endStep})
	case rowNode:
		for _, part := range n.parts {
			w.write(part)
		}
	case eitherNode:
		w.writeEither(n)
	case groupNode:
		w.add(step{kind: noteStep, slot: 2 * n.group})
		w.write(n.parts[0])
		w.add(step{kind: noteStep, slot: 2*n.group + 1})
	case plusNode:
		back := len(w.steps)
		w.write(n.parts[0])
		fork := w.fork()
		w.lead(fork, back, fork+1, n.lazy)
	case timesNode:
		w.writeTimes(n)
	}
}

// writeEither writes the steps of alternatives.
func (w *writer) writeEither(n *node) {
	fork := w.fork()
	w.write(n.parts[0])
	jump := w.add(step{kind: jumpStep})
	w.lead(fork, fork+1, jump+1, false)
	w.write(n.parts[1])
	w.steps[jump].first = len(w.steps)
}

// writeTimes writes the steps of a repeat with numbers.
func (w *writer) writeTimes(n *node) {
	thing := n.parts[0]
	for range n.least {
		w.write(thing)
	}
	if n.most == noMost {
		fork := w.fork()
		w.write(thing)
		jump := w.add(step{kind: jumpStep, first: fork})
		w.lead(fork, fork+1, jump+1, n.lazy)
		return
	}
	var forks []int
	for range n.most - n.least {
		forks = append(forks, w.fork())
		w.write(thing)
	}
	for _, fork := range forks {
		w.lead(fork, fork+1, len(w.steps), n.lazy)
	}
}
