package sat_test

import (
	"math"
	"slices"
	"testing"

	"interlock/api"
	"interlock/sat"
)

const (
	least    = math.MinInt
	greatest = math.MaxInt
	// most is how many variables there are at most.
	most = api.MaxVars - 1
	// enough is a budget that suffices for whatever these tests ask.
	enough = api.MaxBudget
)

// of is a solver of vars variables with those clauses.
func of(t *testing.T, vars int, list ...[]int) *sat.Solver {
	t.Helper()
	s := sat.New(vars)
	for _, l := range list {
		if e := s.Add(l...); e != api.OK {
			t.Fatalf("P16.1: New(%d): Add(%v) = %d", vars, l, e)
		}
	}
	return s
}

// values lists of the variables from 1 on those that are true.
func values(s *sat.Solver) []int {
	var list []int
	for v := 1; v <= s.Vars(); v++ {
		if s.Value(v) {
			list = append(list, v)
		}
	}
	return list
}

// upTo lists the numbers from 1 to n.
func upTo(n int) []int {
	var list []int
	for v := range n {
		list = append(list, v+1)
	}
	return list
}

// repeated lists a number as often.
func repeated(l, times int) []int {
	return slices.Repeat([]int{l}, times)
}

func TestNew(t *testing.T) {
	for _, x := range []struct{ vars, want int }{
		{0, 0}, {1, 1}, {2, 2}, {3, 3}, {1000, 1000},
		// Below 0: none.
		{-1, 0}, {-5, 0}, {least, 0},
		// Above MaxVars less 1: as that.
		{most - 1, most - 1}, {most, most}, {api.MaxVars, most}, {api.MaxVars + 1, most}, {1 << 40, most}, {greatest, most},
	} {
		s := sat.New(x.vars)
		if s == nil {
			t.Fatalf("P16.1: New(%d) = nil", x.vars)
		}
		if s.Vars() != x.want || s.Used() != 0 || len(s.Core()) != 0 || len(values(s)) != 0 {
			t.Errorf("P16.1: New(%d): Vars %d, Used %d, Core %v, true are %v", x.vars, s.Vars(), s.Used(), s.Core(), values(s))
		}
		// Without clauses whatever is assumed is so.
		if x.want > 0 && (s.Solve(1, x.want) != 1 || !s.Value(x.want) || s.Solve(1, -x.want) != 1 || s.Value(x.want)) {
			t.Errorf("P16.1: New(%d): there is no model of %d, or of its opposite", x.vars, x.want)
		}
		if s.Solve(1, x.want+1) != 0 || s.Add(x.want+1) != api.ErrRange || s.Solve(1) != 1 {
			t.Errorf("P16.1: New(%d) has a variable %d, or no model", x.vars, x.want+1)
		}
	}
}

func TestGrow(t *testing.T) {
	s := sat.New(3)
	for _, x := range []struct {
		n, want int
		e       api.Errno
		vars    int
	}{
		{0, 3, api.OK, 3}, {2, 3, api.OK, 5}, {1, 5, api.OK, 6},
		{-1, 0, api.ErrRange, 6}, {-6, 0, api.ErrRange, 6}, {least, 0, api.ErrRange, 6},
		{most - 5, 0, api.ErrRange, 6}, {api.MaxVars, 0, api.ErrRange, 6}, {greatest, 0, api.ErrRange, 6},
		{10, 6, api.OK, 16}, {most - 17, 16, api.OK, most - 1}, {2, 0, api.ErrRange, most - 1}, {1, most - 1, api.OK, most},
		{0, most, api.OK, most}, {1, 0, api.ErrRange, most}, {-1, 0, api.ErrRange, most}, {greatest, 0, api.ErrRange, most}, {least, 0, api.ErrRange, most},
	} {
		if got, e := s.Grow(x.n); got != x.want || e != x.e || s.Vars() != x.vars {
			t.Errorf("P16.1: Grow(%d) = %d, %d, Vars %d, want %d, %d, %d", x.n, got, e, s.Vars(), x.want, x.e, x.vars)
		}
	}
	if s.Add(-most, -1) != api.OK || s.Solve(1, most) != 1 || s.Value(1) || !s.Value(most) || s.Solve(1, 1, most) != 2 {
		t.Error("P16.1: the variables that came by Grow are not as others")
	}
}

// TestGrowAmong: variables come between clauses, and ahead of and behind Solves.
func TestGrowAmong(t *testing.T) {
	s := of(t, 1, []int{1})
	for v := 1; v < 200; v++ {
		if got, e := s.Grow(1); got != v || e != api.OK {
			t.Fatalf("P16.1: Grow(1) = %d, %d, want %d", got, e, v)
		}
		if s.Add(-v, v+1) != api.OK || s.Solve(1) != 1 || !slices.Equal(values(s), upTo(v+1)) {
			t.Fatalf("P16.1: with %d behind %d true are %v", v+1, v, values(s))
		}
		if s.Solve(1, -v-1) != 2 || !slices.Equal(s.Core(), []int{-v - 1}) {
			t.Fatalf("P16.2: Core of not %d: %v", v+1, s.Core())
		}
	}
	if s.Used() != 2*199 {
		t.Errorf("P16.1: Used %d, want %d: nothing was tried", s.Used(), 2*199)
	}
}

func TestAdd(t *testing.T) {
	for _, x := range []struct {
		l    []int
		want api.Errno
	}{
		{[]int{1}, api.OK}, {[]int{-9}, api.OK}, {[]int{3, -1, 9}, api.OK}, {nil, api.OK}, {[]int{}, api.OK},
		// A number with its opposite, or twice.
		{[]int{1, -1}, api.OK}, {[]int{2, 2, 2}, api.OK}, {[]int{-3, 3, 3, -3}, api.OK},
		{repeated(4, api.MaxClause), api.OK}, {repeated(4, api.MaxClause+1), api.ErrLong}, {repeated(10, api.MaxClause+1), api.ErrLong}, {repeated(0, api.MaxClause+1), api.ErrLong}, {append(repeated(4, api.MaxClause-1), 0), api.ErrRange},
		{[]int{0}, api.ErrRange}, {[]int{1, 0}, api.ErrRange}, {[]int{10}, api.ErrRange}, {[]int{-10}, api.ErrRange}, {[]int{1, 2, -10}, api.ErrRange}, {[]int{10, 1, -1}, api.ErrRange},
		{[]int{least}, api.ErrRange}, {[]int{greatest}, api.ErrRange}, {[]int{1, least + 1}, api.ErrRange}, {[]int{1<<32 + 1}, api.ErrRange}, {[]int{-1<<32 - 1}, api.ErrRange}, {[]int{1 << 32}, api.ErrRange},
	} {
		s := sat.New(9)
		if got := s.Add(x.l...); got != x.want || s.Used() != 0 || s.Vars() != 9 {
			t.Errorf("P16.1: Add(%v) = %d, Used %d, want %d", x.l[:min(len(x.l), 8)], got, s.Used(), x.want)
		}
		// A clause that may not be is none.
		if x.want != api.OK && (s.Solve(1) != 1 || s.Solve(1, clauses(x.l, 9)...) != 1) {
			t.Errorf("P16.1: %v is a clause, though it may not be", x.l[:min(len(x.l), 8)])
		}
	}
}

// clauses lists the opposites of those numbers that are literals of variables up to vars, each once.
func clauses(l []int, vars int) []int {
	var list []int
	for _, n := range l {
		if v := max(n, -n); v > 0 && v <= vars && !slices.Contains(list, -n) && !slices.Contains(list, n) {
			list = append(list, -n)
		}
	}
	return list
}

// TestAddOfNoVariables: only the empty clause may be.
func TestAddOfNoVariables(t *testing.T) {
	s := sat.New(0)
	if s.Add(1) != api.ErrRange || s.Add(0) != api.ErrRange || s.Solve(1) != 1 || s.Add() != api.OK || s.Solve(1) != 2 || len(s.Core()) != 0 {
		t.Error("P16.1: of no variables only the empty clause may be")
	}
}

// TestEmptyClause: there is no model, whatever is assumed, and whatever comes behind it.
func TestEmptyClause(t *testing.T) {
	s := of(t, 3, []int{1, 2}, nil)
	for range 3 {
		for _, assume := range [][]int{nil, {1}, {-1, 2, 3}, {1, -1}, {2, 2}} {
			if got := s.Solve(1, assume...); got != 2 || !among(s.Core(), assume) || len(values(s)) != 0 {
				t.Errorf("P16.2: with an empty clause: Solve(%v) = %d, Core %v", assume, got, s.Core())
			}
		}
		if s.Add(1) != api.OK || s.Add(-1, 3) != api.OK || s.Add(9) != api.ErrRange {
			t.Error("P16.1: Add behind an empty clause")
		}
		if _, e := s.Grow(1); e != api.OK {
			t.Error("P16.1: Grow behind an empty clause")
		}
	}
	if s.Solve(0) != 0 || s.Solve(1, 0) != 0 || s.Solve(1, 7) != 0 || s.Used() < 15 {
		t.Errorf("P16.2: with an empty clause: Solves that may not be; Used %d", s.Used())
	}
}

// among tells whether a core is of what is assumed: each once, in their order.
func among(core, assume []int) bool {
	at := 0
	for _, l := range assume {
		if at < len(core) && core[at] == l {
			at++
		}
	}
	sorted := slices.Sorted(slices.Values(core))
	return at == len(core) && len(slices.Compact(sorted)) == len(core)
}

func TestSolve(t *testing.T) {
	for _, x := range []struct {
		vars   int
		list   [][]int
		assume []int
		want   int
		// What is true, and the core, where there is but one that can be.
		model, core []int
	}{
		// The chapter's example.
		{2, [][]int{{1, 2}}, []int{-1}, 1, []int{2}, nil},
		{0, nil, nil, 1, nil, nil}, {0, [][]int{{}}, nil, 2, nil, nil},
		{1, [][]int{{1}}, nil, 1, []int{1}, nil}, {1, [][]int{{-1}}, nil, 1, nil, nil}, {1, [][]int{{1}, {-1}}, nil, 2, nil, nil},
		{1, [][]int{{1}}, []int{1}, 1, []int{1}, nil}, {1, [][]int{{1}}, []int{-1}, 2, nil, []int{-1}}, {1, [][]int{{-1}}, []int{1}, 2, nil, []int{1}},
		{2, [][]int{{1, 2}, {-1, 2}, {1, -2}}, nil, 1, []int{1, 2}, nil}, {2, [][]int{{1, 2}, {-1, 2}, {1, -2}, {-1, -2}}, nil, 2, nil, nil},
		{3, [][]int{{-1, 2}, {-2, 3}}, []int{1}, 1, []int{1, 2, 3}, nil}, {3, [][]int{{-1, 2}, {-2, 3}}, []int{-3}, 1, nil, nil}, {3, [][]int{{-1, 2}, {-2, 3}}, []int{1, -3}, 2, nil, []int{1, -3}}, {3, [][]int{{-1, 2}, {-2, 3}}, []int{-3, 1}, 2, nil, []int{-3, 1}},
		// Clauses with a literal twice, or with its opposite.
		{2, [][]int{{1, 1}, {-1, 2, -1, 2}}, nil, 1, []int{1, 2}, nil}, {2, [][]int{{1, -1}, {-2}}, []int{1}, 1, []int{1}, nil}, {2, [][]int{{1, -1, 1}, {2}}, []int{-1}, 1, []int{2}, nil}, {2, [][]int{{2, 2, 2}, {-2, -2}}, nil, 2, nil, nil},
		{3, [][]int{{-1, 2, 1}, {1}, {-2}, {3}}, nil, 1, []int{1, 3}, nil},
		// What is assumed twice, or with its opposite.
		{2, [][]int{{1, 2}}, []int{-1, -1}, 1, []int{2}, nil}, {2, [][]int{{1, 2}}, []int{-1, -2, -1, -2}, 2, nil, []int{-1, -2}}, {2, [][]int{{1, 2}}, []int{-2, -2, -1, -2}, 2, nil, []int{-2, -1}},
		{2, nil, []int{1, -1}, 2, nil, []int{1, -1}}, {2, nil, []int{-1, 1}, 2, nil, []int{-1, 1}}, {2, nil, []int{2, 1, -1, 1, 2}, 2, nil, []int{1, -1}}, {2, nil, []int{-2, 2, 1}, 2, nil, []int{-2, 2}},
		// What is assumed and known, or not of weight.
		{5, [][]int{{1}, {-1, 2}, {-3, -4}}, []int{2, 5, 3, 1, 4}, 2, nil, []int{3, 4}}, {5, [][]int{{1}, {-1, 2}, {-3, -4}}, []int{5, -2, 3}, 2, nil, []int{-2}}, {5, [][]int{{1}, {-1, 2}, {-3, -4}}, []int{2, 5, 3, 1, -4}, 1, []int{1, 2, 3, 5}, nil},
		{4, [][]int{{-1, -2, 3}}, []int{1, 4, 2, -3}, 2, nil, []int{1, 2, -3}}, {4, [][]int{{-1, -2, 3}}, []int{-3, 2, 4, 1}, 2, nil, []int{-3, 2, 1}},
		// Of what is assumed that follows, or comes too late.
		{3, [][]int{{-1, 2}, {-2, -3}}, []int{1, 2, 3}, 2, nil, []int{1, 3}}, {2, [][]int{{-1, -2}}, []int{1, 2, -1}, 2, nil, []int{1, 2}}, {3, [][]int{{-1, 2}, {-2, 3}}, []int{3, 1, 2, -3}, 2, nil, []int{3, -3}},
		// Units behind clauses that they make shorter, and ahead of them.
		{4, [][]int{{1, 2, 3, 4}, {-1}, {-2}, {-3}}, nil, 1, []int{4}, nil}, {4, [][]int{{-1}, {-2}, {-3}, {1, 2, 3, 4}}, nil, 1, []int{4}, nil}, {4, [][]int{{-1}, {-2}, {-3}, {-4}, {1, 2, 3, 4}}, nil, 2, nil, nil}, {4, [][]int{{1, 2, 3, 4}, {-1}, {-2}, {-3}}, []int{-4}, 2, nil, []int{-4}},
	} {
		s := of(t, x.vars, x.list...)
		for range 2 {
			got := s.Solve(enough, x.assume...)
			if got != x.want || got == 1 && !fits(values(s), x.list, x.assume) || got != 1 && len(values(s)) != 0 {
				t.Errorf("P16.2: of %v: Solve(%v) = %d, true are %v, want %d", x.list, x.assume, got, values(s), x.want)
			}
			if x.model != nil && !slices.Equal(values(s), x.model) {
				t.Errorf("P16.2: of %v: Solve(%v): true are %v, want %v", x.list, x.assume, values(s), x.model)
			}
			if !slices.Equal(s.Core(), x.core) {
				t.Errorf("P16.2: of %v: Solve(%v): Core %v, want %v", x.list, x.assume, s.Core(), x.core)
			}
		}
	}
}

// fits tells whether each clause, and each number that is assumed, has what is true in it.
func fits(model []int, list [][]int, assume []int) bool {
	so := func(l int) bool { return slices.Contains(model, max(l, -l)) == (l > 0) }
	for _, l := range list {
		if !slices.ContainsFunc(l, so) {
			return false
		}
	}
	return !slices.ContainsFunc(assume, func(l int) bool { return !so(l) })
}

// TestSolveRefused: of a budget below 1, or a literal of no variable, it is 0, and no work.
func TestSolveRefused(t *testing.T) {
	for _, x := range []struct {
		budget int
		assume []int
		want   int
	}{
		{1, nil, 1}, {1, []int{3, -2}, 1}, {greatest, nil, 1}, {api.MaxBudget + 1, []int{-3}, 1}, {1, []int{-1, -2}, 2},
		{0, nil, 0}, {-1, nil, 0}, {least, nil, 0}, {0, []int{3}, 0}, {0, []int{-1, -2}, 0}, {-5, []int{7}, 0},
		{enough, []int{0}, 0}, {enough, []int{4}, 0}, {enough, []int{-4}, 0}, {enough, []int{1, 2, 4}, 0}, {enough, []int{0, 1}, 0}, {enough, []int{-1, -2, 0}, 0}, {enough, []int{1, -1, 9}, 0},
		{enough, []int{least}, 0}, {enough, []int{least + 1}, 0}, {enough, []int{greatest}, 0}, {enough, []int{1<<32 + 1}, 0}, {enough, []int{-1<<32 - 1}, 0}, {enough, []int{1 << 32}, 0}, {enough, []int{3, 1, api.MaxVars}, 0},
	} {
		s := of(t, 3, []int{1, 2})
		if got := s.Solve(x.budget, x.assume...); got != x.want || (s.Used() == 0) != (x.want == 0) {
			t.Errorf("P16.2: Solve(%d, %v) = %d, Used %d, want %d", x.budget, x.assume, got, s.Used(), x.want)
		}
		if x.want == 0 && (len(values(s)) != 0 || len(s.Core()) != 0) {
			t.Errorf("P16.2: Solve(%d, %v) = 0, true are %v, Core %v", x.budget, x.assume, values(s), s.Core())
		}
		used := s.Used()
		if s.Solve(1, -1) != 1 || !s.Value(2) || s.Used() != used+1 {
			t.Errorf("P16.2: behind Solve(%d, %v): Used %d, true are %v", x.budget, x.assume, s.Used(), values(s))
		}
	}
}

// TestUsed: one of each Solve, and of each conflict.
func TestUsed(t *testing.T) {
	s := of(t, 3, []int{1, 2}, []int{-1, 3})
	for n := range 10 {
		if s.Used() != n {
			t.Errorf("P16.1: Used %d, want %d: no conflicts were met", s.Used(), n)
		}
		s.Solve(1, 1, 2, 3)
		s.Solve(0, 1)
		s.Solve(9, 4)
		s.Add(1, 2)
		s.Grow(1 - 1)
	}
	// Whatever is tried first is in conflict, and so is its opposite.
	for _, x := range []struct {
		vars int
		list [][]int
		want int
	}{
		{2, [][]int{{1, 2}, {-1, 2}, {1, -2}, {-1, -2}}, 3}, {3, [][]int{{1, 2}, {-1, 2}, {1, -2}, {-1, -2}}, 3},
	} {
		s := of(t, x.vars, x.list...)
		if got := s.Solve(enough); got != 2 || s.Used() != x.want {
			t.Errorf("P16.1: of %v: Solve = %d, Used %d, want %d", x.list, got, s.Used(), x.want)
		}
		// It is known then, and no more conflict is met.
		if got := s.Solve(1); got != 2 || s.Used() != x.want+1 {
			t.Errorf("P16.1: of %v: Solve = %d, Used %d, want %d", x.list, got, s.Used(), x.want+1)
		}
	}
}

func TestValue(t *testing.T) {
	s := of(t, 4, []int{1}, []int{-2}, []int{-1, 3})
	none := func(when string) {
		t.Helper()
		if len(values(s)) != 0 {
			t.Errorf("P16.2: %s: true are %v", when, values(s))
		}
	}
	again := func() {
		t.Helper()
		if s.Solve(1, 4) != 1 || !slices.Equal(values(s), []int{1, 3, 4}) {
			t.Fatalf("P16.2: true are %v, want 1, 3, 4", values(s))
		}
	}
	none("ahead of any Solve")
	again()
	for _, v := range []int{0, 2, 5, -1, -2, -3, -4, -5, least, least + 1, greatest, 1<<32 + 1, -1<<32 - 1, api.MaxVars + 1} {
		if s.Value(v) {
			t.Errorf("P16.2: Value(%d) = true", v)
		}
	}
	if s.Core() != nil || s.Used() != 1 || s.Vars() != 4 || !slices.Equal(values(s), []int{1, 3, 4}) {
		t.Errorf("P16.2: the model is gone, though nothing was added or solved")
	}
	// What may not be is not added.
	if s.Add(9) != api.ErrRange || s.Add(repeated(1, api.MaxClause+1)...) != api.ErrLong || !slices.Equal(values(s), []int{1, 3, 4}) {
		t.Errorf("P16.2: true are %v behind clauses that may not be", values(s))
	}
	s.Add(3, 4)
	none("behind Add")
	again()
	s.Add(1, -1)
	none("behind Add of what is always true")
	again()
	s.Add(1)
	none("behind Add of what is there")
	again()
	s.Solve(1, -1)
	none("behind Solve that is 2")
	again()
	s.Solve(0)
	none("behind Solve of no budget")
	again()
	s.Solve(1, 5)
	none("behind Solve of no variable")
	again()
	s.Solve(1, -4)
	if !slices.Equal(values(s), []int{1, 3}) {
		t.Errorf("P16.2: true are %v, want 1, 3", values(s))
	}
	s.Add()
	none("behind the empty clause")
}

// TestValueBehindGrow: the model goes on being one, also with variables more.
func TestValueBehindGrow(t *testing.T) {
	s := of(t, 2, []int{1, 2})
	if s.Solve(1, 1, 2) != 1 {
		t.Fatal("P16.2: there is no model of 1 or 2")
	}
	s.Grow(2)
	for v, want := range []bool{false, true, true, false, false, false} {
		if s.Value(v) != want {
			t.Errorf("P16.2: behind Grow: Value(%d) = %v", v, s.Value(v))
		}
	}
	s.Add(-1, 3)
	if len(values(s)) != 0 || s.Solve(1, 1) != 1 || !s.Value(3) {
		t.Errorf("P16.2: behind Add: true are %v", values(s))
	}
}

func TestCore(t *testing.T) {
	s := of(t, 6, []int{-1, -2}, []int{-3, -4}, []int{-5})
	if len(s.Core()) != 0 {
		t.Errorf("P16.2: ahead of any Solve: Core %v", s.Core())
	}
	for _, x := range []struct {
		budget int
		assume []int
		want   int
		core   []int
	}{
		{1, []int{6, 1, -3, 2}, 2, []int{1, 2}}, {1, nil, 1, nil}, {1, []int{6, 2, -3, 1}, 2, []int{2, 1}}, {0, []int{1, 2}, 0, nil}, {1, []int{4, 6, 3}, 2, []int{4, 3}}, {1, []int{4, 3, 7}, 0, nil}, {1, []int{5}, 2, []int{5}}, {1, []int{-5}, 1, nil}, {1, []int{6, 5, 1, 5}, 2, []int{5}}, {1, []int{6, -6, 5, 1}, 2, []int{6, -6}},
	} {
		if got := s.Solve(x.budget, x.assume...); got != x.want || !slices.Equal(s.Core(), x.core) || !slices.Equal(s.Core(), x.core) {
			t.Errorf("P16.2: Solve(%d, %v) = %d, Core %v, want %d, %v", x.budget, x.assume, got, s.Core(), x.want, x.core)
		}
	}
}

// TestAddFindsWhatCantBe: clauses that can't be together already where they are added.
func TestAddFindsWhatCantBe(t *testing.T) {
	s := of(t, 2, []int{1})
	if s.Solve(1) != 1 || s.Add(-1) != api.OK || s.Solve(1, 2) != 2 || len(s.Core()) != 0 || s.Solve(1) != 2 || s.Used() > 5 {
		t.Errorf("P16.2: of 1 and not 1: Core %v, Used %d", s.Core(), s.Used())
	}
}

// TestNobody: of a solver that nobody made there is nothing.
func TestNobody(t *testing.T) {
	for name, s := range map[string]*sat.Solver{"nil": nil, "empty": {}, "new": new(sat.Solver)} {
		for _, n := range []int{0, 1, -1, least, greatest} {
			if got, e := s.Grow(n); got != 0 || e != api.ErrState {
				t.Errorf("P16.4: %s: Grow(%d) = %d, %d", name, n, got, e)
			}
			if s.Add(n) != api.ErrState || s.Solve(n) != 0 || s.Solve(1, n) != 0 || s.Value(n) {
				t.Errorf("P16.4: %s: Add, Solve or Value of %d", name, n)
			}
		}
		// Its error goes ahead of those of clauses.
		if s.Add() != api.ErrState || s.Add(repeated(1, api.MaxClause+1)...) != api.ErrState || s.Add(1, -1) != api.ErrState {
			t.Errorf("P16.4: %s: Add", name)
		}
		if s.Solve(enough) != 0 || s.Core() != nil || s.Used() != 0 || s.Vars() != 0 {
			t.Errorf("P16.4: %s: Solve, Core %v, Used %d, Vars %d", name, s.Core(), s.Used(), s.Vars())
		}
	}
}
