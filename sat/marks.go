package sat

// marks are of what was met on a walk: of each number the walk on which it was met last. So nothing need be taken away where the next walk begins.
type marks struct {
	met  map[int]int
	walk int
}

// newMarks are marks of nothing, on a first walk.
func newMarks() marks {
	return marks{met: map[int]int{}, walk: 1}
}

// begin begins another walk.
func (m *marks) begin() {
	m.walk++
}

// meet marks a number, and tells whether it was not met on this walk.
func (m *marks) meet(n int) bool {
	if m.has(n) {
		return false
	}
	m.met[n] = m.walk
	return true
}

// has tells whether a number was met on this walk.
func (m *marks) has(n int) bool {
	return m.met[n] == m.walk
}

// once lists literals as they come, but each once.
func once(l ...int) []literal {
	seen := newMarks()
	var list []literal
	for _, n := range l {
		if seen.meet(n) {
			list = append(list, literal(n))
		}
	}
	return list
}
