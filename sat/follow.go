package sat

// follow sets what follows from what is set, and tells the place of a clause that clashes: all of its literals are false.
func (s *search) follow() int {
	for s.done < s.Len() {
		l := literal(s.At(s.done))
		s.done++
		s.upkeep.effort++
		if clash := s.visit(-l); clash != none {
			return clash
		}
	}
	return none
}

// visit looks at the clauses in which a literal is watched that is false now. Each watches another one instead; where there is none, its first one must be true. It tells the place of a clause whose first one can't be.
func (s *search) visit(gone literal) int {
	list := s.watches[gone.spot()]
	kept := 0
	for i, w := range list {
		if s.holds(w.other) {
			list[kept] = w
			kept++
			continue
		}
		l := s.lits(int(w.at))
		if l[0] == gone {
			l[0], l[1] = l[1], gone
		}
		w.other = l[0]
		if !s.holds(l[0]) && s.instead(l, w) {
			continue
		}
		list[kept] = w
		kept++
		switch s.bit(l[0]) {
		case isFree:
			s.set(l[0], int(w.at))
		case isFalse:
			kept += copy(list[kept:], list[i+1:])
			s.watches[gone.spot()] = list[:kept]
			return int(w.at)
		}
	}
	s.watches[gone.spot()] = list[:kept]
	return none
}

// instead watches another literal of a clause than its second one, if there is one that is not false, and puts it there.
func (s *search) instead(l []literal, w watch) bool {
	for i := 2; i < len(l); i++ {
		if !s.fails(l[i]) {
			l[1], l[i] = l[i], l[1]
			s.watches[l[1].spot()] = append(s.watches[l[1].spot()], w)
			return true
		}
	}
	return false
}
