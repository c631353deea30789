package sat

import (
	"cmp"
	"slices"
)

// For how many learned clauses there is room at first, for how many more each time, and up to which grade they stay.
const (
	leastRoom = 2000
	moreRoom  = 300
	bestGrade = 2
)

// upkeep is what tells when there is something to tidy: the room, how much was set for good the last time, and how much work was done since then.
type upkeep struct {
	room   int
	facts  int
	effort int
}

// tidy lets clauses go that are true for good, and, if there is no room, the worse ones that were learned. It must be called where all is followed, and all that is set is set for good: so no clause is a reason that is asked for.
func (s *search) tidy() {
	u := &s.upkeep
	full := s.learned >= u.room
	// All clauses are gone through, so it must be worth it.
	if !full && (s.Len() == u.facts || u.effort < len(s.cells)) {
		return
	}
	for at := range s.places {
		if slices.ContainsFunc(s.lits(at), s.holds) {
			s.drop(at)
		}
	}
	if full {
		s.dropWorse()
	}
	s.renew(s.fails)
	if full {
		// Room that only grows lets nothing be learned and dropped for ever.
		u.room = max(u.room, s.learned) + moreRoom
	}
	u.facts, u.effort = s.Len(), 0
}

// dropWorse lets the worse half of what was learned go: of those that are as good the older ones.
func (s *search) dropWorse() {
	var list []int
	for at := range s.places {
		if s.grade(at) > bestGrade {
			list = append(list, at)
		}
	}
	slices.SortStableFunc(list, func(a, b int) int {
		return cmp.Compare(s.grade(b), s.grade(a))
	})
	for _, at := range list[:len(list)/2] {
		s.drop(at)
	}
}
