package formula

import (
	"iter"

	"interlock/api"
)

// setter sets literals, and what follows from them.
type setter struct {
	// set is the literal that is set, by its variable; 0 if none is.
	set []int
	// queue lists what is set, in that order.
	queue []int
	// waits lists, by the places of literals, the clauses that wait for these to be lost.
	waits [][]*waiting
}

// waiting is a clause that does nothing as long as two of its literals may be true.
type waiting struct {
	kept, other int
	// rest was not looked at yet; all that stands ahead of it is lost, or one of the two.
	rest []int
}

// place is a literal's place in a list of all.
func place(l int) int {
	if l < 0 {
		return 2*variable(l) + 1
	}
	return 2 * l
}

// Units lists what follows by units, by variables, if that can be true.
func Units(f api.Formula, l ...int) (list []int, may bool, told api.Errno) {
	defer func() {
		if met := recover(); met != nil {
			told = met.(fault).told
		}
	}()
	needFormula(f)
	need(all(variables(f.Vars).have, l...), api.ErrRange)
	s := setter{set: make([]int, f.Vars+1), waits: make([][]*waiting, place(-f.Vars)+1)}
	for _, n := range l {
		s.sets(n)
	}
	for _, c := range f.Clauses {
		s.takes(c)
	}
	// The queue grows while it is gone through.
	for at := 0; at < len(s.queue); at++ {
		s.loses(-s.queue[at])
	}
	return s.listed(f.Vars), true, api.OK
}

// sets sets a literal; 0 stands for one that there is not.
func (s *setter) sets(l int) {
	met := &s.set[variable(l)]
	need(l != 0 && *met != -l, api.OK)
	if *met == 0 {
		*met = l
		s.queue = append(s.queue, l)
	}
}

// open hands out the literals that may be true, with their places.
func (s *setter) open(l []int) iter.Seq2[int, int] {
	return func(yield func(at, n int) bool) {
		for at, n := range l {
			if s.set[variable(n)] != -n && !yield(at, n) {
				return
			}
		}
	}
}

// takes looks at a clause for the first time.
func (s *setter) takes(l []int) {
	w := &waiting{rest: l}
	s.another(w)
	w.kept = w.other
	s.another(w)
}

// loses goes on with the clauses that waited for a literal to be lost. Nothing waits for it again: what is set stays so.
func (s *setter) loses(l int) {
	for _, w := range s.waits[place(l)] {
		if w.kept == l {
			w.kept = w.other
		}
		s.another(w)
	}
}

// another finds another literal than the one kept that may be true; if there is none, the one kept must be.
func (s *setter) another(w *waiting) {
	for at, n := range s.open(w.rest) {
		if n == w.kept {
			continue
		}
		w.other, w.rest = n, w.rest[at+1:]
		s.waits[place(n)] = append(s.waits[place(n)], w)
		return
	}
	s.sets(w.kept)
}

// listed lists what is set, by variables.
func (s *setter) listed(vars int) []int {
	var list []int
	for at := range vars {
		if l := s.set[at+1]; l != 0 {
			list = append(list, l)
		}
	}
	return list
}
