package trail_test

import (
	"slices"
	"sync"
	"testing"

	"interlock/api"
	"interlock/trail"
)

// chance makes numbers, one after the other, always the same ones.
type chance uint64

func (r *chance) below(n int) int {
	*r = *r*6364136223846793005 + 1442695040888963407
	return int(uint64(*r)>>33) % n
}

// put is what a plain list keeps of a literal.
type put struct{ l, level, reason int }

// plain is a trail as a plain list of what is set.
type plain struct {
	vars  int
	puts  []put
	level int
}

func (p *plain) grow(n int) {
	p.vars = min(p.vars+max(n, 0), api.MaxVars)
}

func (p *plain) knows(v int) bool { return v >= 1 && v <= p.vars }

// find is what is set of a variable.
func (p *plain) find(v int) (put, bool) {
	for _, x := range p.puts {
		if x.l == v || x.l == -v {
			return x, p.knows(v)
		}
	}
	return put{}, false
}

func (p *plain) put(l, reason int) bool {
	_, is := p.find(max(l, -l))
	if is || !p.knows(max(l, -l)) {
		return false
	}
	p.puts = append(p.puts, put{l, p.level, reason})
	return true
}

func (p *plain) deeper() int {
	p.level++
	return p.level
}

func (p *plain) back(level int) {
	p.level = min(p.level, max(level, 0))
	p.puts = slices.DeleteFunc(p.puts, func(x put) bool { return x.level > p.level })
}

// step does one drawn thing to both, and tells whether both answered the same.
func (r *chance) step(s *trail.Trail, p *plain) bool {
	switch r.below(12) {
	case 0:
		n := r.below(4) - 2
		s.Grow(n)
		p.grow(n)
	case 1, 2:
		level := r.below(p.level+4) - 2
		s.Back(level)
		p.back(level)
	case 3, 4, 5:
		return s.Deeper() == p.deeper()
	default:
		l, reason := r.below(2*p.vars+5)-p.vars-2, r.below(9)-4
		return s.Put(l, reason) == p.put(l, reason)
	}
	return true
}

// alike tells whether both have the same literals, set at the same levels for the same reasons.
func alike(s *trail.Trail, p *plain) bool {
	for v := -1; v <= p.vars+1; v++ {
		x, is := p.find(v)
		if !is && (s.Value(v) != 0 && v > 0 || s.Level(v) != -1 || s.Reason(v) != 0) {
			return false
		}
		if is && (s.Value(x.l) != 1 || s.Value(-x.l) != -1 || s.Level(v) != x.level || s.Reason(v) != x.reason) {
			return false
		}
	}
	var list []int
	for _, x := range p.puts {
		list = append(list, x.l)
	}
	return s.Depth() == p.level && lists(s, list...)
}

// TestIsAsPlainLists: what is told to a trail makes it what a plain list is of the same.
func TestIsAsPlainLists(t *testing.T) {
	for seed := range 300 {
		r := chance(seed)
		n := r.below(30) - 2
		s, p := trail.New(n), &plain{}
		p.grow(n)
		for at := range 200 {
			if !r.step(s, p) || !alike(s, p) {
				t.Fatalf("P15.1: seed %d: step %d is not as of plain lists", seed, at)
			}
		}
	}
}

// TestTheGreatest: all variables that may be are set, each on a level of its own, and gone again, half of them at a time.
func TestTheGreatest(t *testing.T) {
	s := trail.New(api.MaxVars / 2)
	s.Grow(api.MaxVars)
	literal := func(i int) int { return ((i*5)%api.MaxVars + 1) * (1 - i%2*2) }
	for i := range api.MaxVars {
		if s.Deeper() != i+1 || !s.Put(literal(i), i) {
			t.Fatalf("P15.1: Put(%d) at level %d = false", literal(i), s.Depth())
		}
	}
	for left := api.MaxVars; left > 0; left /= 2 {
		s.Back(left)
		if s.Len() != left || s.Depth() != left || len(s.Lits()) != left {
			t.Fatalf("P15.1: Back(%d): Len %d, Depth %d, %d Lits", left, s.Len(), s.Depth(), len(s.Lits()))
		}
		for i := range api.MaxVars {
			if l := literal(i); i < left && !(told(s, l, i+1, i) && s.At(i) == l) || i >= left && !free(s, max(l, -l)) {
				t.Fatalf("P15.1: Back(%d): %d: Value %d, Level %d", left, l, s.Value(l), s.Level(max(l, -l)))
			}
		}
	}
}

// TestMemory: trails share nothing with one another, nor with the lists that they told.
func TestMemory(t *testing.T) {
	a, b := of(t, 5, 1, 0, -2, 3), of(t, 5, 1, 0, -2, 3)
	first, second := a.Lits(), a.Lits()
	first[0], first[1] = 9, 9
	if !lists(a, 1, -2, 3) || !slices.Equal(second, []int{1, -2, 3}) {
		t.Errorf("P15.2: a list that was told is changed: Lits %v, and %v", a.Lits(), second)
	}
	_ = append(second[:1], 8, 8)
	if !lists(a, 1, -2, 3) {
		t.Errorf("P15.2: Lits %v, want 1, -2, 3", a.Lits())
	}
	third := a.Lits()
	_ = append(third, 7)
	a.Put(4, 6)
	if !lists(a, 1, -2, 3, 4) || !slices.Equal(third, []int{1, -2, 3}) {
		t.Errorf("P15.2: Lits %v, and %v", a.Lits(), third)
	}
	third = a.Lits()
	a.Back(0)
	a.Put(-5, 1)
	if !slices.Equal(third, []int{1, -2, 3, 4}) || !lists(a, 1, -5) {
		t.Errorf("P15.2: Lits %v, and %v", a.Lits(), third)
	}
	a.Grow(3)
	if !lists(b, 1, -2, 3) || b.Depth() != 1 || !told(b, -2, 1, -20) || !free(b, 5) || b.Put(6, 0) {
		t.Errorf("P15.2: one trail's literals are another's: Lits %v", b.Lits())
	}
	if len((*trail.Trail)(nil).Lits())+len((&trail.Trail{}).Lits()) != 0 {
		t.Error("P15.2: literals of trails that nobody made")
	}
}

// TestAtOneTime: trails of several goroutines do as each of them would alone, and those that nobody made among them.
func TestAtOneTime(t *testing.T) {
	var wait sync.WaitGroup
	var nobody trail.Trail
	for seed := range 8 {
		wait.Go(func() {
			r := chance(seed / 2)
			s, p := trail.New(20), &plain{}
			p.grow(20)
			for at := range 300 {
				if !r.step(s, p) || !alike(s, p) {
					t.Errorf("P15.1, P15.2: seed %d: step %d is not as of plain lists", seed, at)
					return
				}
				nobody.Grow(1)
				nobody.Back(0)
				if nobody.Deeper() != 0 || nobody.Put(1, 1) || nobody.Level(1) != -1 || !lists(&nobody) {
					t.Error("P15.2: something is kept in a trail that nobody made")
				}
			}
		})
	}
	wait.Wait()
}
