package sat_test

import (
	"slices"
	"sync"
	"testing"

	"interlock/api"
	"interlock/sat"
)

// chance makes numbers, one after the other, always the same ones.
type chance uint64

func (r *chance) below(n int) int {
	*r = *r*6364136223846793005 + 1442695040888963407
	return int(uint64(*r)>>33) % n
}

// literals draws so many literals of variables up to vars.
func (r *chance) literals(n, vars int) []int {
	var list []int
	for range n {
		list = append(list, (1+r.below(vars))*(1-2*r.below(2)))
	}
	return list
}

// plain is a solver as a plain list of clauses.
type plain struct {
	vars int
	list [][]int
}

// true tells whether a literal is true, where bit v of a model is that of variable v.
func isTrue(l, model int) bool {
	return l > 0 && model>>l&1 == 1 || l < 0 && model>>-l&1 == 0
}

// possible tells, model by model, whether there is one with what is assumed.
func (p *plain) possible(assume ...int) bool {
	for model := 0; model < 2<<p.vars; model += 2 {
		in := func(l int) bool { return isTrue(l, model) }
		if !slices.ContainsFunc(assume, func(l int) bool { return !in(l) }) && !slices.ContainsFunc(p.list, func(l []int) bool { return !slices.ContainsFunc(l, in) }) {
			return true
		}
	}
	return false
}

// fault tells what is wrong in what a Solve told of these clauses; an empty text: nothing is.
func (p *plain) fault(s *sat.Solver, told int, used, budget int, assume ...int) string {
	met := s.Used() - used - 1
	switch {
	case met < 0 || met > budget:
		return "more conflicts than budget, or no work"
	case told == 0 && met < budget:
		return "0, though the budget suffices"
	case told < 0 || told > 2:
		return "no kind of answer"
	case told != 1 && len(values(s)) != 0:
		return "there are values without a model"
	case told == 1 && !fits(values(s), p.list, assume):
		return "the model is none"
	case told != 2 && len(s.Core()) != 0:
		return "there is a core of what has none"
	case told == 2 && !among(s.Core(), assume):
		return "the core is not of what is assumed"
	case told == 2 && p.vars <= 12 && p.possible(s.Core()...):
		return "the core has a model"
	}
	return ""
}

// step does one drawn thing to both, and tells what is wrong then.
func (r *chance) step(s *sat.Solver, p *plain) string {
	switch r.below(10) {
	case 0:
		n := r.below(2)
		if p.vars+n > 10 {
			n = 0
		}
		were, e := s.Grow(n)
		if were != p.vars || e != api.OK {
			return "Grow"
		}
		p.vars += n
	case 1:
		l := append(r.literals(r.below(3), p.vars), []int{0, p.vars + 1, -p.vars - 1, least}[r.below(4)])
		if s.Add(l...) != api.ErrRange || s.Solve(enough, l...) != 0 {
			return "what is no literal is taken"
		}
	case 2, 3, 4, 5:
		l := r.literals(1+r.below(5)+r.below(2)*r.below(60)/57, p.vars)
		if r.below(400) == 0 {
			l = nil
		}
		if s.Add(l...) != api.OK {
			return "Add"
		}
		p.list = append(p.list, l)
		if len(values(s)) != 0 {
			return "the model is there behind Add"
		}
	default:
		return r.solve(s, p)
	}
	if s.Vars() != p.vars {
		return "Vars"
	}
	return ""
}

// solve solves with what is drawn, and tells what is wrong then.
func (r *chance) solve(s *sat.Solver, p *plain) string {
	assume := r.literals(r.below(7), p.vars)
	budget := []int{1, 1 + r.below(4), enough}[r.below(3)]
	used := s.Used()
	told := s.Solve(budget, assume...)
	if wrong := p.fault(s, told, used, budget, assume...); wrong != "" {
		return wrong
	}
	if told != 0 && (told == 1) != p.possible(assume...) {
		return "there is a model where none is told, or the other way round"
	}
	return ""
}

// TestIsAsPlainLists: what is told to a solver makes it tell what can be told of a plain list of clauses.
func TestIsAsPlainLists(t *testing.T) {
	solved := 0
	for seed := range 600 {
		r := chance(seed)
		n := 1 + r.below(8)
		s, p := sat.New(n), &plain{vars: n}
		for at := range 120 {
			if wrong := r.step(s, p); wrong != "" {
				t.Fatalf("P16.1 to P16.3: seed %d: step %d: %s; clauses %v", seed, at, wrong, p.list)
			}
		}
		solved += s.Used()
	}
	if solved < 20000 {
		t.Errorf("P16.3: all work was only %d", solved)
	}
}

// TestDrawnAtTheEdge: as many clauses as make a model as likely as none.
func TestDrawnAtTheEdge(t *testing.T) {
	var kinds [3]int
	for seed := range 400 {
		r := chance(seed + 1000)
		s, p := sat.New(11), &plain{vars: 11}
		for range 46 {
			l := r.literals(3, 11)
			s.Add(l...)
			p.list = append(p.list, l)
		}
		for range 6 {
			assume := r.literals(r.below(4), 11)
			used := s.Used()
			told := s.Solve(enough, assume...)
			kinds[told]++
			if wrong := p.fault(s, told, used, enough, assume...); wrong != "" || told == 0 || (told == 1) != p.possible(assume...) {
				t.Fatalf("P16.3: seed %d: Solve(%v) = %d: %s; clauses %v", seed, assume, told, wrong, p.list)
			}
		}
	}
	if kinds[1] < 500 || kinds[2] < 500 {
		t.Errorf("P16.3: kinds that were told: %v", kinds)
	}
}

// budgets holds the answers of a list of clauses with all budgets against one another: those that suffice, and those that don't.
func budgets(t *testing.T, vars int, list [][]int, assume ...int) {
	t.Helper()
	s := of(t, vars, list...)
	want := s.Solve(enough, assume...)
	needed := s.Used() - 1
	if want == 0 {
		t.Fatalf("P16.3: Solve(%d) = 0", enough)
	}
	for _, budget := range []int{needed, needed + 1, needed - 1, needed / 2, 1} {
		if budget < 1 {
			continue
		}
		s := of(t, vars, list...)
		got := s.Solve(budget, assume...)
		if budget >= needed && (got != want || s.Used() != needed+1) || budget < needed && (got != 0 || s.Used() != budget+1) {
			t.Fatalf("P16.2: of %d conflicts: Solve(%d) = %d, Used %d, want %d", needed, budget, got, s.Used(), want)
		}
		if again := s.Solve(enough, assume...); again != want {
			t.Fatalf("P16.3: of %d conflicts: behind Solve(%d): %d, want %d", needed, budget, again, want)
		}
	}
	// Little by little it is told, too: what is learned stays.
	s = of(t, vars, list...)
	for n := range 2*needed + 20 {
		used := s.Used()
		told := s.Solve(1+n/10, assume...)
		if wrong := (&plain{vars: vars, list: list}).fault(s, told, used, 1+n/10, assume...); wrong != "" {
			t.Fatalf("P16.2: Solve(%d): %s", 1+n/10, wrong)
		}
		if told != 0 {
			if told != want {
				t.Fatalf("P16.3: little by little %d, at once %d", told, want)
			}
			return
		}
	}
	t.Errorf("P16.3: little by little nothing is told, at once %d with %d conflicts", want, needed)
}

func TestBudgets(t *testing.T) {
	for seed := range 60 {
		r := chance(seed)
		var list [][]int
		for range 255 {
			list = append(list, r.literals(3, 60))
		}
		budgets(t, 60, list, r.literals(seed%4, 60)...)
	}
	budgets(t, 30, pigeons(6, 5))
	budgets(t, 42, pigeons(7, 6))
	budgets(t, 56, pigeons(8, 7), 1, 9, -17)
}

// TestMemory: nothing that is handed in is changed or kept, and what is told shares no memory.
func TestMemory(t *testing.T) {
	l := []int{3, -1, 3, 2, 7, 7, 7}
	assume := []int{1, -2, 1, -3, 9, 9}
	s := sat.New(5)
	if s.Add(l[:4]...) != api.OK || s.Solve(9, assume[:4]...) != 2 {
		t.Fatal("P16.2: not 1, 2, 3 with 1, not 2, not 3")
	}
	if !slices.Equal(l, []int{3, -1, 3, 2, 7, 7, 7}) || !slices.Equal(assume, []int{1, -2, 1, -3, 9, 9}) {
		t.Fatalf("P16.4: changed to %v, %v", l, assume)
	}
	first, second := s.Core(), s.Core()
	want := []int{1, -2, -3}
	_ = append(first[:1], 8, 8)
	first[0] = 9
	if !slices.Equal(second, want) || !slices.Equal(s.Core(), want) {
		t.Errorf("P16.4: cores share memory: %v, %v", second, s.Core())
	}
	for at := range l {
		l[at] = 4
	}
	for at := range assume {
		assume[at] = 5
	}
	if !slices.Equal(s.Core(), want) || s.Solve(9, 1, -2) != 1 || !s.Value(3) || s.Solve(9, -4, -5) != 1 {
		t.Errorf("P16.4: what was handed in is kept: Core %v, true are %v", s.Core(), values(s))
	}
	if !slices.Equal(second, want) {
		t.Errorf("P16.4: what was told is changed: %v", second)
	}
	other := sat.New(5)
	if other.Solve(9, 1, -2, -3) != 1 || other.Used() != 1 || s.Solve(9, 1, -2, -3) != 2 || !slices.Equal(values(other), []int{1}) {
		t.Errorf("P16.4: two solvers have clauses in common")
	}
}

// TestCopyIsTheSame: what is told to a copy is told to the solver.
func TestCopyIsTheSame(t *testing.T) {
	s := of(t, 2, []int{1, 2})
	other := *s
	if other.Add(-1) != api.OK || s.Solve(1) != 1 || !other.Value(2) || s.Used() != other.Used() {
		t.Errorf("P16.2: a copy is another solver")
	}
	if _, e := other.Grow(3); e != api.OK || s.Vars() != 5 {
		t.Errorf("P16.1: a copy has other variables: %d", s.Vars())
	}
}

// TestAlwaysTheSame: two solvers that are told the same tell the same, and those of several goroutines do.
func TestAlwaysTheSame(t *testing.T) {
	var list [][]int
	r := chance(7)
	for range 600 {
		list = append(list, r.literals(3, 140))
	}
	tell := func() []int {
		s := sat.New(140)
		var told []int
		for n, l := range list {
			s.Add(l...)
			if n%100 == 99 {
				told = append(told, s.Solve(1000, l[0], -l[2], l[1]))
				told = append(append(append(told, values(s)...), s.Core()...), s.Used())
			}
		}
		return told
	}
	want := tell()
	var wait sync.WaitGroup
	for range 8 {
		wait.Go(func() {
			var nobody sat.Solver
			if got := tell(); !slices.Equal(got, want) || nobody.Add(1) != api.ErrState {
				t.Errorf("P16.3: the same is told to two solvers, which tell %v and %v", got, want)
			}
		})
	}
	wait.Wait()
}
