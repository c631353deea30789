package sat

import "interlock/clause"

// unit is how many conflicts end the shortest turn.
const unit = 100

// search is what a solver works with: what is set, the clauses, which variable is tried next, what was met; whether there is no model, whatever is wanted; and what was told of the last Solve.
type search struct {
	board
	store
	order  order
	lesson lesson
	upkeep upkeep
	vars   int
	broken bool
	left   int
	used   int
	told   int
	core   []int
}

// newSearch is a search of the variables from 1 to vars, without clauses.
func newSearch(vars int) *search {
	s := &search{board: newBoard(), store: newStore(), order: newOrder(), lesson: newLesson()}
	s.upkeep.room = leastRoom
	s.grow(vars)
	return s
}

// grow makes n variables more.
func (s *search) grow(n int) {
	s.vars += n
	s.board.widen(n)
	s.store.widen(n)
	s.order.widen(n)
}

// knowsNot tells whether a number is a literal of no variable. (The least int has no opposite, and stays below 0.)
func (s *search) knowsNot(l int) bool {
	v := max(l, -l)
	return v < 1 || v > s.vars
}

// back goes back to a level.
func (s *search) back(level int) {
	s.undo(level, s.order.again)
}

// add stores a clause, without what is false for good, unless it is true for good. A model that was told holds no longer.
func (s *search) add(l ...int) {
	s.told = unknown
	s.back(0)
	list, always := clause.Norm(l)
	if always {
		return
	}
	var open []literal
	for _, n := range list {
		switch s.bit(literal(n)) {
		case isTrue:
			return
		case isFree:
			open = append(open, literal(n))
		}
	}
	switch len(open) {
	case 0:
		s.broken = true
	case 1:
		s.set(open[0], none)
	default:
		s.put(added, open...)
	}
}

// solve takes turns, each of them with what was learned ahead, till one ends it.
func (s *search) solve(budget int, assume ...int) int {
	s.back(0)
	s.used++
	s.left = budget
	wanted := once(assume...)
	for n := 1; !s.broken; n++ {
		if told, ended := s.turn(unit*luby(n), wanted); ended {
			return told
		}
		s.back(0)
	}
	return impossible
}

// turn tries, and learns from conflicts, until it ends, or so many were met.
func (s *search) turn(most int, wanted []literal) (int, bool) {
	for most > 0 {
		clash := s.follow()
		if clash == none {
			if told := s.try(wanted); told != unknown {
				return told, true
			}
			continue
		}
		s.broken = s.Depth() == 0
		if s.left == 0 {
			return unknown, true
		}
		s.left--
		s.used++
		if s.broken {
			return impossible, true
		}
		s.learn(clash)
		most--
	}
	return unknown, false
}

// try sets a literal that is wanted, or else the best one, on a level of its own; or tells that nothing is left to be tried, or that what is wanted can't be.
func (s *search) try(wanted []literal) int {
	if s.Depth() == 0 {
		s.tidy()
	}
	for s.Depth() < len(wanted) {
		l := wanted[s.Depth()]
		if s.fails(l) {
			s.core = s.against(l, wanted)
			return impossible
		}
		// What is true already has a level, too, so that the depth tells which one is next.
		s.Deeper()
		if !s.holds(l) {
			s.set(l, none)
			return unknown
		}
	}
	l := s.next()
	if l == 0 {
		return possible
	}
	s.Deeper()
	s.set(l, none)
	return unknown
}

// next is the literal that was set last of the best variable that is free; 0: none is.
func (s *search) next() literal {
	for {
		v, is := s.order.Pop()
		if !is {
			return 0
		}
		if l := s.last[v]; s.bit(l) == isFree {
			return l
		}
	}
}

// luby is how many units turn n takes: 1 1 2 1 1 2 4, that all again, 8, and so on. So turns grow without end, but most are short.
func luby(n int) int {
	size := 1
	for size < n {
		size = 2*size + 1
	}
	for size != n {
		size /= 2
		if n > size {
			n -= size
		}
	}
	return (size + 1) / 2
}
