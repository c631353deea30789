package sat

import "slices"

// none is the place of no clause.
const none = 0

// header is how many cells stand ahead of a clause's literals: how many these are, and its grade.
const header = 2

// The grades of a clause that was added, and of one that is to go. Those that were learned have grades from 1 on, the best ones 1.
const (
	dropped = iota - 1
	added
)

// store keeps clauses of at least two literals, one behind the other in one list, as they are read quicker so than from lists of their own.
type store struct {
	cells   []literal
	watches [][]watch
	learned int
}

// watch is kept of a literal that is watched in a clause: where that stands, and another one of its literals. While this one is true the clause need not be looked at. (No more can be handed in than a place of 32 bits tells.)
type watch struct {
	at    uint32
	other literal
}

// newStore is a store of no clauses. Nothing stands at the place of no clause.
func newStore() store {
	return store{cells: make([]literal, 1), watches: make([][]watch, 1)}
}

// widen makes n variables more.
func (s *store) widen(n int) {
	s.watches = append(s.watches, make([][]watch, 2*n)...)
}

// put stores a clause, watches its first two literals, and tells its place.
func (s *store) put(grade int, l ...literal) int {
	at := len(s.cells)
	s.cells = append(s.cells, literal(len(l)), literal(grade))
	s.cells = append(s.cells, l...)
	// What was handed in may have stood in this memory, and be written over.
	first, second := s.cells[at+header], s.cells[at+header+1]
	s.watch(first, at, second)
	s.watch(second, at, first)
	if grade > added {
		s.learned++
	}
	return at
}

// watch watches a literal of the clause at a place.
func (s *store) watch(l literal, at int, other literal) {
	s.watches[l.spot()] = append(s.watches[l.spot()], watch{at: uint32(at), other: other})
}

// lits are the literals of the clause at a place, where they stand.
func (s *store) lits(at int) []literal {
	from := at + header
	return s.cells[from : from+int(s.cells[at])]
}

// grade is the grade of the clause at a place.
func (s *store) grade(at int) int {
	return int(s.cells[at+1])
}

// drop marks the clause at a place: it is to go.
func (s *store) drop(at int) {
	s.cells[at+1] = dropped
}

// places hands out the places of all clauses.
func (s *store) places(yield func(at int) bool) {
	for at := none + 1; at < len(s.cells); at += header + int(s.cells[at]) {
		if !yield(at) {
			return
		}
	}
}

// renew stores all clauses anew, but those that are to go, and without the literals of which that is told. None stands further behind than it stood, so that the memory is the same.
func (s *store) renew(without func(l literal) bool) {
	old := s.cells
	s.cells, s.learned = old[:none+1], 0
	for at := range s.watches {
		s.watches[at] = s.watches[at][:0]
	}
	for at := none + 1; at < len(old); {
		l := old[at+header:][:old[at]]
		grade := int(old[at+1])
		at += header + len(l)
		if grade != dropped {
			s.put(grade, slices.DeleteFunc(l, without)...)
		}
	}
}
