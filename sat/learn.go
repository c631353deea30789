package sat

// deepest is how far it is looked back whether a literal is needless, so that no chain is too long.
const deepest = 500

// lesson is what is met on the way back from a conflict: variables, levels, and variables that are needed; and memory for the clause.
type lesson struct {
	vars   marks
	levels marks
	needed marks
	list   []literal
}

// newLesson is a lesson of no conflict.
func newLesson() lesson {
	return lesson{vars: newMarks(), levels: newMarks(), needed: newMarks()}
}

// meet marks a literal's variable, and tells whether it was not met: those that are set for good never are, as they need no reason.
func (s *search) meet(l literal) bool {
	return s.levelOf(l) > 0 && s.lesson.vars.meet(l.variable())
}

// learn works out a clause that the clash shows, goes back until its first literal alone is free, and sets that.
func (s *search) learn(clash int) {
	list := s.shorten(s.explain(clash))
	grade := s.gradeOf(list)
	s.back(s.second(list))
	reason := none
	if len(list) > 1 {
		reason = s.put(grade, list...)
	}
	s.set(list[0], reason)
	s.order.age()
}

// explain is a clause that follows, and is false: one literal of this level, the first, from which all that clashes follows with others of levels below, which are the rest.
func (s *search) explain(clash int) []literal {
	s.lesson.vars.begin()
	list := append(s.lesson.list[:0], 0)
	here, last := 0, s.Len()
	for reason := clash; ; {
		for _, l := range s.lits(reason) {
			if !s.meet(l) {
				continue
			}
			s.order.blame(l.variable())
			if s.levelOf(l) == s.Depth() {
				here++
			} else {
				list = append(list, l)
			}
		}
		last = s.metAhead(last)
		l := literal(s.At(last))
		here--
		if here == 0 {
			list[0] = -l
			s.lesson.list = list
			return list
		}
		reason = s.reasonOf(l)
	}
}

// metAhead is the last place ahead of one on the trail where a literal stands whose variable was met.
func (s *search) metAhead(at int) int {
	for at--; !s.lesson.vars.has(literal(s.At(at)).variable()); at-- {
	}
	return at
}

// shorten leaves out of a clause that is explained what is false because of the others.
func (s *search) shorten(l []literal) []literal {
	s.lesson.needed.begin()
	// This marks its levels.
	s.gradeOf(l)
	kept := l[:1]
	for _, one := range l[1:] {
		if !s.needless(one, 0) {
			kept = append(kept, one)
		}
	}
	return kept
}

// needless tells whether a literal is false because of others that were met, and meets it then. What is of a level that the clause has not can't be so, and is not looked into.
func (s *search) needless(l literal, deep int) bool {
	t := &s.lesson
	reason := s.reasonOf(l)
	if reason == none || deep == deepest || !t.levels.has(s.levelOf(l)) || t.needed.has(l.variable()) {
		return false
	}
	for _, why := range s.lits(reason) {
		known := why == -l || s.levelOf(why) == 0 || t.vars.has(why.variable())
		if !known && !s.needless(why, deep+1) {
			t.needed.meet(l.variable())
			return false
		}
	}
	t.vars.meet(l.variable())
	return true
}

// gradeOf is of how many levels a clause's literals are, which are met then. The fewer, the sooner it is of use again.
func (s *search) gradeOf(l []literal) int {
	s.lesson.levels.begin()
	grade := 0
	for _, one := range l {
		if s.lesson.levels.meet(s.levelOf(one)) {
			grade++
		}
	}
	return grade
}

// second puts a literal of the greatest level but the first one's at the second place, and tells that level; 0: there is none.
func (s *search) second(l []literal) int {
	if len(l) == 1 {
		return 0
	}
	for i := 2; i < len(l); i++ {
		if s.levelOf(l[i]) > s.levelOf(l[1]) {
			l[1], l[i] = l[i], l[1]
		}
	}
	return s.levelOf(l[1])
}

// against lists what of wanted can't be together with a literal of it that is false, and that literal. Nothing must be set but what is wanted, and what follows.
func (s *search) against(l literal, wanted []literal) []int {
	s.lesson.vars.begin()
	s.meet(l)
	for at := s.Len() - 1; at >= 0; at-- {
		one := literal(s.At(at))
		if !s.lesson.vars.has(one.variable()) || s.reasonOf(one) == none {
			continue
		}
		for _, why := range s.lits(s.reasonOf(one)) {
			s.meet(why)
		}
	}
	var list []int
	for _, one := range wanted {
		if one == l || s.holds(one) && s.reasonOf(one) == none && s.lesson.vars.has(one.variable()) {
			list = append(list, int(one))
		}
	}
	return list
}
