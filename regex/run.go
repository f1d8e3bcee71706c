package regex

import "unicode/utf8"

// note is a place that was noted on a way, and those that were noted before. Ways share what they noted ahead of their fork, so that a fork costs nothing.
type note struct {
	slot, place int
	before      *note
}

// thread is a way that has come to a step.
type thread struct {
	step int
	last *note
}

// runner follows all ways of a program through a text at once. The threads at one place stand in the order in which trying one way behind the other would come to their steps; only the first one to come to a step goes on.
type runner struct {
	steps  []step
	end    int // the text's length
	noting bool
	met    []int    // by step: 1 more than the place at which it was come to last
	later  []thread // what forks say second
	found  bool
	last   *note // of the way that was found
}

// run tells whether a way comes to yes, and, if noting, what was noted last on the first of these.
func (p *Prog) run(text string, noting bool) (*note, bool) {
	r := runner{steps: p.steps, end: len(text), noting: noting, met: make([]int, len(p.steps))}
	now, next := r.follow(nil, thread{}, 0), []thread(nil)
	for at := 0; at < len(text) && len(now) > 0; {
		char, width := utf8.DecodeRuneInString(text[at:])
		at += width
		next = next[:0]
		for _, t := range now {
			if has(p.steps[t.step].class, char) {
				next = r.follow(next, thread{t.step + 1, t.last}, at)
			}
		}
		now, next = next, now
	}
	return r.last, r.found
}

// follow goes on with a thread, and with those into which it forks, up to the steps that take a character; waiting gets the threads that have come to these.
func (r *runner) follow(waiting []thread, t thread, at int) []thread {
	r.later = append(r.later[:0], t)
threads:
	for len(r.later) > 0 {
		t := r.later[len(r.later)-1]
		r.later = r.later[:len(r.later)-1]
		for r.met[t.step] != at+1 {
			r.met[t.step] = at + 1
			s := &r.steps[t.step]
			t.step++
			switch s.kind {
			case takeStep:
				t.step--
				waiting = append(waiting, t)
				continue threads
			case startStep:
				if at > 0 {
					continue threads
				}
			case endStep:
				if at < r.end {
					continue threads
				}
			case noteStep:
				if r.noting {
					t.last = &note{s.slot, at, t.last}
				}
			case forkStep:
				r.later = append(r.later, thread{s.second, t.last})
				t.step = s.first
			case jumpStep:
				t.step = s.first
			case yesStep:
				if at < r.end {
					continue threads
				}
				r.found, r.last = true, t.last
				break threads
			}
		}
	}
	return waiting
}
