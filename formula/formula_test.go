package formula_test

import (
	"math"
	"slices"
	"strings"
	"testing"

	"interlock/api"
	"interlock/formula"
)

const (
	least    = math.MinInt
	greatest = math.MaxInt
)

// of is a formula.
func of(vars int, clauses ...[]int) api.Formula {
	return api.Formula{Vars: vars, Clauses: clauses}
}

// many is a formula of n clauses, all alike.
func many(vars, n int, l ...int) api.Formula {
	return api.Formula{Vars: vars, Clauses: slices.Repeat([][]int{l}, n)}
}

// long is a clause of n literals, all alike.
func long(n, l int) []int {
	return slices.Repeat([]int{l}, n)
}

// with is a formula with one of its clauses put in another's place.
func with(f api.Formula, at int, l ...int) api.Formula {
	f.Clauses = slices.Clone(f.Clauses)
	f.Clauses[at] = l
	return f
}

// shown is the formula in few words.
func shown(f api.Formula) (vars, clauses int, first [][]int) {
	for _, l := range f.Clauses[:min(len(f.Clauses), 4)] {
		first = append(first, l[:min(len(l), 6)])
	}
	return f.Vars, len(f.Clauses), first
}

// same tells whether two formulas are one.
func same(a, b api.Formula) bool {
	return a.Vars == b.Vars && slices.EqualFunc(a.Clauses, b.Clauses, slices.Equal[[]int])
}

// zeroed tells whether a formula is zero.
func zeroed(f api.Formula) bool {
	return f.Vars == 0 && f.Clauses == nil
}

// mayNot are formulas that may not be.
func mayNot() []api.Formula {
	most := many(2, api.MaxClauses, 1)
	return []api.Formula{
		// Of too few variables, and too many.
		of(-1), of(-1, []int{}), of(-1, []int{1}), of(-1, []int{-1}), of(-2, []int{-2}), of(least), of(least, []int{least}), of(api.MaxVars + 1), of(api.MaxVars+1, []int{1}), of(greatest), of(greatest, []int{greatest}),
		// Of too many clauses.
		many(2, api.MaxClauses+1, 1), many(2, api.MaxClauses+1), many(0, api.MaxClauses+1), many(2, api.MaxClauses+9, -2, 1), many(20, api.MaxClauses+1, 0),
		// A clause is too long, wherever it stands.
		of(2, long(api.MaxClause+1, 1)), of(2, long(api.MaxClause+1, -2)), of(2, long(1<<16, 1)), of(2, []int{1}, long(api.MaxClause+1, 1)), of(2, long(api.MaxClause+1, 1), []int{1}), of(2, nil, long(api.MaxClause+1, 1), nil), of(2, long(api.MaxClause+1, 0)), with(most, api.MaxClauses-1, long(api.MaxClause+1, 1)...),
		// A literal is 0.
		of(2, []int{0}), of(2, []int{1, 0}), of(2, []int{0, 1}), of(2, []int{1, 0, 2}), of(2, []int{1}, []int{2, 0}), of(0, []int{0}), of(2, []int{}, []int{0}, []int{}), of(2, append(long(api.MaxClause-1, 1), 0)), with(most, api.MaxClauses-1, 0), with(most, 0, 0),
		// A literal of a variable that is not there.
		of(2, []int{3}), of(2, []int{-3}), of(2, []int{1, 3}), of(2, []int{-3, 1}), of(2, []int{1, -3, 2}), of(2, []int{1}, []int{2}, []int{3}), of(0, []int{1}), of(0, []int{-1}), of(api.MaxVars, []int{api.MaxVars + 1}), of(api.MaxVars, []int{-api.MaxVars - 1}), of(2, []int{greatest}), of(2, []int{least + 1}), with(most, api.MaxClauses-1, 3), with(most, api.MaxClauses/2, -3),
		// The least int.
		of(2, []int{least}), of(2, []int{1, least}), of(2, []int{least, 1}), of(api.MaxVars, []int{least}), of(0, []int{least}), of(2, []int{1}, []int{-2, least}), with(most, api.MaxClauses-1, least),
	}
}

// may are formulas that may be.
func may() []api.Formula {
	return []api.Formula{
		{}, of(0), of(0, nil), of(0, []int{}), of(0, nil, []int{}, nil), of(1), of(2, []int{}), of(2, []int{}, []int{1}), of(2, []int{1, -2}, nil),
		of(1, []int{1}), of(1, []int{-1}), of(2, []int{1}, []int{-1, 2}), of(2, []int{-2, 1}), of(3, []int{1}), of(3, []int{3, 2, 1, -1, -2, -3}, []int{2, 2, 2}), of(2, []int{1}, []int{1}, []int{-1}),
		of(api.MaxVars), of(api.MaxVars, nil), of(api.MaxVars, []int{api.MaxVars, -api.MaxVars, 1}), of(api.MaxVars-1, []int{api.MaxVars - 1}),
		of(2, long(api.MaxClause, 1)), of(2, long(api.MaxClause, -2), long(api.MaxClause-1, 2)),
		many(2, api.MaxClauses, 1, -2), many(0, api.MaxClauses), many(1, api.MaxClauses-1, -1),
	}
}

func TestCheck(t *testing.T) {
	for _, f := range may() {
		if e := formula.Check(f); e != api.OK {
			vars, clauses, first := shown(f)
			t.Errorf("P11.1: Check of %d variables, %d of %v = %d", vars, clauses, first, e)
		}
	}
	for _, f := range mayNot() {
		if e := formula.Check(f); e != api.ErrState {
			vars, clauses, first := shown(f)
			t.Errorf("P11.1: Check of %d variables, %d of %v = %d", vars, clauses, first, e)
		}
	}
}

func TestAdd(t *testing.T) {
	two := of(3, []int{1, -2}, []int{3})
	for _, x := range []struct {
		f    api.Formula
		l    [][]int
		want api.Formula
	}{
		// None.
		{two, nil, two}, {two, [][]int{}, two}, {api.Formula{}, nil, of(0)}, {of(0, nil), nil, of(0, nil)}, {of(5), nil, of(5)},
		// One.
		{two, [][]int{{2, -3}}, of(3, []int{1, -2}, []int{3}, []int{2, -3})}, {of(3), [][]int{{2}}, of(3, []int{2})}, {of(0), [][]int{{}}, of(0, []int{})}, {two, [][]int{nil}, of(3, []int{1, -2}, []int{3}, nil)}, {of(2, nil), [][]int{{1}}, of(2, nil, []int{1})},
		// Several, behind the others, in their order, as they are.
		{two, [][]int{{3}, {2, 2, 1}, {3}, {-1, 1}}, of(3, []int{1, -2}, []int{3}, []int{3}, []int{2, 2, 1}, []int{3}, []int{-1, 1})}, {of(3), [][]int{{3, -1, 2, 2}, {1}}, of(3, []int{3, -1, 2, 2}, []int{1})}, {two, [][]int{{}, {1}, {}}, of(3, []int{1, -2}, []int{3}, nil, []int{1}, nil)},
		{of(1), [][]int{long(api.MaxClause, -1)}, of(1, long(api.MaxClause, -1))}, {of(api.MaxVars), [][]int{{-api.MaxVars}}, of(api.MaxVars, []int{-api.MaxVars})},
		// As many as there may be.
		{many(2, api.MaxClauses-1, 1, 2), [][]int{{-2}}, with(many(2, api.MaxClauses, 1, 2), api.MaxClauses-1, -2)}, {many(2, api.MaxClauses, 1), nil, many(2, api.MaxClauses, 1)}, {of(2), slices.Repeat([][]int{{2}}, api.MaxClauses), many(2, api.MaxClauses, 2)},
	} {
		got, e := formula.Add(x.f, x.l...)
		if e != api.OK || !same(got, x.want) {
			_, clauses, first := shown(got)
			t.Errorf("P11.1: Add(%d clauses, %d more) = %d of %v, %d", len(x.f.Clauses), len(x.l), clauses, first, e)
		}
	}
}

func TestAddOfWhatMayNotBe(t *testing.T) {
	two := of(2, []int{1, -2}, []int{2})
	for _, x := range []struct {
		f api.Formula
		l [][]int
	}{
		// One of several may not be, wherever it stands.
		{two, [][]int{{3}}}, {two, [][]int{{-3}}}, {two, [][]int{{0}}}, {two, [][]int{{least}}}, {two, [][]int{{1, 2, 0}}}, {two, [][]int{{3}, {1}}}, {two, [][]int{{1}, {3}}}, {two, [][]int{{1}, {}, {2, -3}, {2}}}, {two, [][]int{long(api.MaxClause+1, 1)}}, {two, [][]int{{1}, long(api.MaxClause+1, 1)}}, {of(0), [][]int{{1}}}, {of(0), [][]int{{}, {-1}}}, {api.Formula{}, [][]int{{0}}},
		// There would be too many.
		{many(2, api.MaxClauses, 1), [][]int{{1}}}, {many(2, api.MaxClauses, 1), [][]int{nil}}, {many(2, api.MaxClauses-1, 1), [][]int{{1}, {2}}}, {of(2), slices.Repeat([][]int{{2}}, api.MaxClauses+1)}, {of(2, nil), slices.Repeat([][]int{{2}}, api.MaxClauses)},
	} {
		if got, e := formula.Add(x.f, x.l...); e != api.ErrState || !zeroed(got) {
			t.Errorf("P11.1: Add(%d clauses, %d more) = %d clauses, %d", len(x.f.Clauses), len(x.l), len(got.Clauses), e)
		}
	}
	for _, f := range mayNot() {
		for _, l := range [][][]int{nil, {{}}, {{1}}, {{1}, {0}}} {
			if got, e := formula.Add(f, l...); e != api.ErrState || !zeroed(got) {
				vars, clauses, first := shown(f)
				t.Errorf("P11.1: Add to %d variables, %d of %v = %d clauses, %d", vars, clauses, first, len(got.Clauses), e)
			}
		}
	}
}

func TestTrue(t *testing.T) {
	two := of(2, []int{1}, []int{-1, 2})
	for _, x := range []struct {
		f     api.Formula
		model string
		want  bool
	}{
		{two, "11", true}, {two, "10", false}, {two, "01", false}, {two, "00", false}, {of(3, []int{1, -3}), "000", true}, {of(3, []int{1, -3}), "001", false}, {of(3, []int{1, -3}), "101", true}, {of(3, []int{-1}, []int{-2}, []int{3}), "001", true}, {of(3, []int{-1}, []int{-2}, []int{3}), "100", false}, {of(3, []int{-1}, []int{-2}, []int{3}), "000", false},
		// The model is too short, too long, empty, or has another sign.
		{two, "1", false}, {two, "", false}, {two, "111", false}, {two, "110", false}, {of(3, []int{1}), "11", false}, {of(1, []int{1}), "11", false}, {of(1, []int{1}), "1 ", false}, {two, "1x", false}, {two, "x1", false}, {of(2, []int{1}), "12", false}, {of(2, []int{1}), "1\x00", false}, {of(2, []int{1}), "1\x01", false}, {of(2, []int{1}), "1\xff", false}, {of(2, []int{1}), "1é", false}, {of(2, []int{-2}), "0/", false}, {of(2), "1\n", false},
		// No clauses.
		{of(0), "", true}, {api.Formula{}, "", true}, {of(0), "0", false}, {of(0), "1", false}, {of(2), "01", true}, {of(2), "", false}, {of(2), "0", false}, {of(2), "000", false}, {api.Formula{Vars: 1, Clauses: [][]int{}}, "1", true},
		// An empty clause.
		{of(0, nil), "", false}, {of(0, []int{}), "", false}, {of(2, nil), "11", false}, {of(2, []int{1}, []int{}), "11", false}, {of(2, []int{}, []int{1}), "11", false},
		// A clause with both of a variable's.
		{of(1, []int{1, -1}), "0", true}, {of(1, []int{1, -1}), "1", true}, {of(1, []int{-1, 1}), "", false}, {of(2, []int{2, -2}, []int{1}), "00", false}, {of(2, []int{2, -2}, []int{1}), "10", true},
		// Alike literals, alike clauses.
		{of(2, []int{2, 2}), "01", true}, {of(2, []int{2, 2}), "10", false}, {of(1, []int{1}, []int{1}), "1", true}, {of(1, []int{1}, []int{-1}), "1", false}, {of(1, []int{1}, []int{-1}), "0", false},
		// Only the last clause, only the first, or only one in the middle is false.
		{of(3, []int{1}, []int{2}, []int{3}), "110", false}, {of(3, []int{1}, []int{2}, []int{3}), "011", false}, {of(3, []int{1}, []int{2}, []int{3}), "101", false}, {of(3, []int{1}, []int{2}, []int{3}), "111", true},
		// What is no literal is never true.
		{of(2, []int{0}), "11", false}, {of(2, []int{0}), "00", false}, {of(2, []int{3}), "11", false}, {of(2, []int{-3}), "11", false}, {of(2, []int{-3}), "00", false}, {of(2, []int{least}), "11", false}, {of(2, []int{least}), "00", false}, {of(2, []int{greatest}), "11", false}, {of(2, []int{least + 1}), "00", false}, {of(0, []int{1}), "", false}, {of(0, []int{-1}), "", false},
		// A formula of no number of variables has no model.
		{of(-1), "", false}, {of(-1), "0", false}, {of(least), "", false}, {of(greatest), "1", false},
		{of(api.MaxVars, []int{api.MaxVars}), strings.Repeat("0", api.MaxVars-1) + "1", true}, {of(api.MaxVars, []int{api.MaxVars}), strings.Repeat("1", api.MaxVars-1) + "0", false}, {of(api.MaxVars, []int{-api.MaxVars}), strings.Repeat("1", api.MaxVars-1) + "0", true}, {of(api.MaxVars, []int{1}), strings.Repeat("1", api.MaxVars-1), false},
	} {
		if got := formula.True(x.f, x.model); got != x.want {
			t.Errorf("P11.1: True(%v, %.20q) = %v", x.f, x.model, got)
		}
	}
}

func TestBrute(t *testing.T) {
	for _, x := range []struct {
		f    api.Formula
		want string
		is   bool
	}{
		{of(2, []int{1}, []int{-1, 2}), "11", true}, {of(2, []int{-1, 2}), "00", true}, {of(2, []int{1, 2}), "01", true}, {of(3, []int{1, 3}, []int{-3}), "100", true}, {of(1, []int{1}), "1", true}, {of(1, []int{-1}), "0", true}, {of(1), "0", true}, {of(3), "000", true},
		// No variables.
		{of(0), "", true}, {api.Formula{}, "", true}, {of(0, nil), "", false}, {of(0, []int{}, []int{}), "", false},
		// The least of several: the first variable counts most.
		{of(3, []int{1, 2, 3}), "001", true}, {of(3, []int{1, 2}), "010", true}, {of(3, []int{2, 1}, []int{-2, -3}), "010", true}, {of(3, []int{1, 2}, []int{-2, 3}), "011", true}, {of(3, []int{1, 2}, []int{-2, 3}, []int{-3}), "100", true}, {of(4, []int{1, 4}, []int{-4, 1}), "1000", true}, {of(4, []int{1, 2, 3, 4}, []int{-4}), "0010", true}, {of(4, []int{2, -4}, []int{4, 3}), "0010", true}, {of(4, []int{2, -4}, []int{4, -3}, []int{3}), "0111", true}, {of(2, []int{2}), "01", true}, {of(2, []int{1}), "10", true},
		// There is none.
		{of(1, []int{1}, []int{-1}), "", false}, {of(2, []int{1, 2}, []int{1, -2}, []int{-1, 2}, []int{-1, -2}), "", false}, {of(3, []int{}), "", false}, {of(3, []int{1}, nil, []int{2}), "", false}, {of(3, []int{1}, []int{-1, 2}, []int{-2, 3}, []int{-3, -1}), "", false}, {of(3, []int{1, 1}, []int{-1, -1}), "", false},
		// Only the last of all models is one.
		{of(2, []int{1}, []int{2}), "11", true}, {of(4, []int{4}, []int{3}, []int{2}, []int{1}), "1111", true},
		// Both of a variable's, and alike ones.
		{of(2, []int{1, -1}), "00", true}, {of(2, []int{1, -1}, []int{2}), "01", true}, {of(2, []int{2, -2, 1}, []int{2, 2}), "01", true}, {of(2, []int{-1, -1, 1}), "00", true}, {of(2, long(api.MaxClause, 2)), "01", true}, {of(1, []int{1}, []int{1}, []int{1}), "1", true},
		// As many variables as there may be.
		{of(14), strings.Repeat("0", 14), true}, {of(14, []int{14}), strings.Repeat("0", 13) + "1", true}, {of(14, []int{1}), "1" + strings.Repeat("0", 13), true}, {of(14, []int{13, 14}, []int{-14}), strings.Repeat("0", 12) + "10", true}, {of(14, []int{14}, []int{-14}), "", false}, {of(14, nil), "", false}, {of(14, []int{1}, []int{-1, 2}, []int{-2, 14}, []int{-14, 7}), "11000010000001", true}, {of(13, []int{13}), strings.Repeat("0", 12) + "1", true},
		{many(14, api.MaxClauses, 14, -1, 3), strings.Repeat("0", 14), true}, {with(many(14, api.MaxClauses, 14), api.MaxClauses-1, -14, 5), "00001000000001", true}, {many(3, api.MaxClauses), "", false}, {with(many(0, api.MaxClauses), 0), "", false},
	} {
		if got, is, e := formula.Brute(x.f); got != x.want || is != x.is || e != api.OK {
			vars, clauses, first := shown(x.f)
			t.Errorf("P11.1: Brute of %d variables, %d of %v = %q, %v, %d, want %q, %v", vars, clauses, first, got, is, e, x.want, x.is)
		}
	}
}

func TestBruteOfWhatMayNotBe(t *testing.T) {
	for _, f := range []api.Formula{of(15), of(15, []int{1}), of(15, nil), of(15, []int{15}, []int{-15}), of(16, []int{1, 2}), of(64, []int{64}), of(api.MaxVars), of(api.MaxVars, []int{-api.MaxVars}), many(15, api.MaxClauses, 1)} {
		if got, is, e := formula.Brute(f); got != "" || is || e != api.ErrLong {
			vars, clauses, first := shown(f)
			t.Errorf("P11.1: Brute of %d variables, %d of %v = %q, %v, %d", vars, clauses, first, got, is, e)
		}
	}
	// Check's error goes ahead.
	for _, f := range append(mayNot(), of(15, []int{16}), of(15, []int{0}), of(api.MaxVars, []int{1}, []int{least}), many(15, api.MaxClauses+1, 1), of(15, long(api.MaxClause+1, 1))) {
		if got, is, e := formula.Brute(f); got != "" || is || e != api.ErrState {
			vars, clauses, first := shown(f)
			t.Errorf("P11.1: Brute of %d variables, %d of %v = %q, %v, %d", vars, clauses, first, got, is, e)
		}
	}
}
