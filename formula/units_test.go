package formula_test

import (
	"slices"
	"testing"

	"interlock/api"
	"interlock/formula"
)

func TestUnits(t *testing.T) {
	for _, x := range []struct {
		f    api.Formula
		l    []int
		want []int
		may  bool
	}{
		// No l.
		{of(2, []int{1}, []int{-1, 2}), nil, []int{1, 2}, true}, {of(2, []int{1}, []int{-1, 2}), []int{}, []int{1, 2}, true}, {of(2, []int{-2}, []int{-1, 2}), nil, []int{-1, -2}, true}, {of(3, []int{1, 2}), nil, nil, true}, {of(3), nil, nil, true}, {of(0), nil, nil, true}, {api.Formula{}, nil, nil, true}, {of(3, []int{2}), nil, []int{2}, true},
		// l itself, by variables, each once.
		{of(3), []int{2}, []int{2}, true}, {of(3), []int{-3, 1}, []int{1, -3}, true}, {of(3), []int{3, -2, 1}, []int{1, -2, 3}, true}, {of(3), []int{2, 2, -1, 2}, []int{-1, 2}, true}, {of(api.MaxVars), []int{api.MaxVars, -1}, []int{-1, api.MaxVars}, true}, {of(1), long(5000, -1), []int{-1}, true},
		// What follows from l.
		{of(3, []int{-1, 2}), []int{1}, []int{1, 2}, true}, {of(3, []int{-1, 2}), []int{-2}, []int{-1, -2}, true}, {of(3, []int{-1, 2}), []int{-1}, []int{-1}, true}, {of(3, []int{-1, 2}), []int{2}, []int{2}, true}, {of(3, []int{1, 2, 3}), []int{-1}, []int{-1}, true}, {of(3, []int{1, 2, 3}), []int{-1, -3}, []int{-1, 2, -3}, true}, {of(3, []int{1, -2, 3}), []int{-1, -3}, []int{-1, -2, -3}, true}, {of(3, []int{3, 2, 1}), []int{-2, -3}, []int{1, -2, -3}, true},
		// A clause whose last literal stands in it twice, or more often.
		{of(2, []int{1, 1}), nil, []int{1}, true}, {of(2, []int{-2, -2, -2}), nil, []int{-2}, true}, {of(2, []int{2, 1, 2}), []int{-1}, []int{-1, 2}, true}, {of(2, []int{1, 2, 2}), []int{-1}, []int{-1, 2}, true}, {of(2, []int{2, 2, 1}), []int{-1}, []int{-1, 2}, true}, {of(3, []int{3, 1, 3, 2, 3}), []int{-1, -2}, []int{-1, -2, 3}, true}, {of(2, []int{1, 1, 2, 2}), []int{-1}, []int{-1, 2}, true}, {of(2, []int{1, 1, 2, 2}), nil, nil, true}, {of(2, []int{1, 2, 1, 2}), []int{-2}, []int{1, -2}, true}, {of(2, long(api.MaxClause, 2)), nil, []int{2}, true},
		// A clause that is true already sets nothing.
		{of(3, []int{1, 2}), []int{1}, []int{1}, true}, {of(3, []int{1, 2, 3}), []int{1, -2}, []int{1, -2}, true}, {of(3, []int{1, 2, 3}), []int{3, -2}, []int{-2, 3}, true}, {of(2, []int{1}), []int{1}, []int{1}, true}, {of(2, []int{1}, []int{1, 2}, []int{1, -2}), nil, []int{1}, true},
		// An empty clause.
		{of(0, nil), nil, nil, false}, {of(2, nil), nil, nil, false}, {of(2, []int{}), []int{1}, nil, false}, {of(2, []int{1}, []int{}), nil, nil, false}, {of(2, []int{}, []int{1}), nil, nil, false},
		// Both of a variable's in l.
		{of(2), []int{1, -1}, nil, false}, {of(2), []int{-2, 1, 2}, nil, false}, {of(2, []int{1}), []int{-2, 2}, nil, false}, {of(0), nil, nil, true},
		// Both of a variable's, by what follows.
		{of(2, []int{1}, []int{-1}), nil, nil, false}, {of(2, []int{1}), []int{-1}, nil, false}, {of(2, []int{-1}), []int{1}, nil, false}, {of(2, []int{-1, 2}, []int{-1, -2}), []int{1}, nil, false}, {of(3, []int{-1, 2}, []int{-2, 3}, []int{-3, -1}), []int{1}, nil, false}, {of(3, []int{-1, 2}, []int{-2, 3}, []int{-3, -1}), nil, nil, true}, {of(2, []int{1, 2}), []int{-1, -2}, nil, false}, {of(3, []int{1, 2, 3}), []int{-1, -2, -3}, nil, false}, {of(3, []int{2, 2}, []int{-2, -2}), nil, nil, false}, {of(2, []int{1, 1, 2}), []int{-1, -2}, nil, false},
		// What can't be, but not by units.
		{of(2, []int{1, 2}, []int{1, -2}, []int{-1, 2}, []int{-1, -2}), nil, nil, true}, {of(2, []int{1, 2}, []int{1, -2}, []int{-1, 2}, []int{-1, -2}), []int{1}, nil, false}, {of(2, []int{1, 2}, []int{1, -2}), nil, nil, true}, {of(2, []int{1, 2}, []int{1, -2}), []int{-1}, nil, false},
		// A clause with both of a variable's sets nothing.
		{of(2, []int{1, -1}), nil, nil, true}, {of(2, []int{1, -1}), []int{1}, []int{1}, true}, {of(2, []int{-1, 1}), []int{-1}, []int{-1}, true}, {of(2, []int{1, -1, 2}), []int{-2}, []int{-2}, true}, {of(2, []int{2, 1, -1, 2}), []int{-1, -2}, []int{-1, -2}, true}, {of(2, []int{2, -2, 1, -1}), []int{-1}, []int{-1}, true},
		// Through several clauses, in whatever order they stand.
		{of(4, []int{1}, []int{-1, 2}, []int{-2, 3}, []int{-3, -4}), nil, []int{1, 2, 3, -4}, true}, {of(4, []int{-3, -4}, []int{-2, 3}, []int{-1, 2}, []int{1}), nil, []int{1, 2, 3, -4}, true}, {of(4, []int{-2, 3}, []int{1}, []int{-3, -4}, []int{-1, 2}), nil, []int{1, 2, 3, -4}, true}, {of(4, []int{4, -3, -2, -1}, []int{3, -2, -1}, []int{2, -1}), []int{1}, []int{1, 2, 3, 4}, true}, {of(4, []int{-1, -2, -3, 4}, []int{-1, -2, 3}, []int{-1, 2}), []int{1}, []int{1, 2, 3, 4}, true}, {of(5, []int{5, 4}, []int{-4, 3}, []int{2, -3}, []int{1, -2}), []int{-1}, []int{-1, -2, -3, -4, 5}, true}, {of(4, []int{-4, 1}, []int{3, 4}, []int{2, -3}, []int{-2}), nil, []int{1, -2, -3, 4}, true},
	} {
		if got, may, e := formula.Units(x.f, x.l...); !slices.Equal(got, x.want) || may != x.may || e != api.OK || !may && got != nil {
			t.Errorf("P11.2: Units(%v, %v) = %v, %v, %d, want %v, %v", x.f, x.l[:min(len(x.l), 8)], got, may, e, x.want, x.may)
		}
	}
}

func TestUnitsOfWhatMayNotBe(t *testing.T) {
	two := of(2, []int{1, 2})
	for _, x := range []struct {
		f api.Formula
		l []int
	}{
		{two, []int{0}}, {two, []int{3}}, {two, []int{-3}}, {two, []int{least}}, {two, []int{greatest}}, {two, []int{least + 1}}, {two, []int{1, 0}}, {two, []int{0, 1}}, {two, []int{1, 2, -3}}, {two, []int{1, least, 2}}, {of(0), []int{0}}, {of(0), []int{1}}, {of(0), []int{-1}}, {api.Formula{}, []int{least}}, {of(api.MaxVars), []int{api.MaxVars + 1}}, {of(api.MaxVars), []int{-api.MaxVars - 1}}, {two, append(long(5000, 1), 0)},
		// That is told ahead of what can't be.
		{two, []int{1, -1, 3}}, {two, []int{0, 1, -1}}, {of(2, nil), []int{3}}, {of(2, []int{1}, []int{-1}), []int{0}}, {of(0, nil), []int{1}},
	} {
		if got, may, e := formula.Units(x.f, x.l...); got != nil || may || e != api.ErrRange {
			t.Errorf("P11.2: Units(%v, %v) = %v, %v, %d", x.f, x.l[:min(len(x.l), 8)], got, may, e)
		}
	}
	// Check's error goes ahead.
	for _, f := range mayNot() {
		for _, l := range [][]int{nil, {1}, {0}, {1, -1}, {least}, {greatest}} {
			if got, may, e := formula.Units(f, l...); got != nil || may || e != api.ErrState {
				vars, clauses, first := shown(f)
				t.Errorf("P11.2: Units of %d variables, %d of %v, %v = %v, %v, %d", vars, clauses, first, l, got, may, e)
			}
		}
	}
}

// chain is clauses that tell variable by variable from 1 to vars that what is so of one is so of the next one.
func chain(vars int) [][]int {
	var clauses [][]int
	for v := 1; v < vars; v++ {
		clauses = append(clauses, []int{-v, v + 1})
	}
	return clauses
}

// The greatest formulas are gone through in time, in whatever order their clauses stand.
func TestUnitsOfChains(t *testing.T) {
	const vars = api.MaxVars
	var up, down []int
	for v := 1; v <= vars; v++ {
		up, down = append(up, v), append(down, -v)
	}
	clauses := chain(vars)
	for range 2 {
		f := api.Formula{Vars: vars, Clauses: clauses}
		for _, x := range []struct {
			l, want []int
			may     bool
		}{
			{nil, nil, true}, {[]int{1}, up, true}, {[]int{-vars}, down, true}, {[]int{vars}, []int{vars}, true}, {[]int{1, -vars}, nil, false}, {[]int{-vars, 1}, nil, false}, {[]int{vars / 2}, up[vars/2-1:], true}, {[]int{-vars / 2}, down[:vars/2], true}, {up, up, true},
		} {
			if got, may, e := formula.Units(f, x.l...); !slices.Equal(got, x.want) || may != x.may || e != api.OK {
				t.Errorf("P11.2: Units of a chain, %d of l = %d, %v, %d", len(x.l), len(got), may, e)
			}
		}
		clauses = slices.Clone(clauses)
		slices.Reverse(clauses)
	}
}

// Long clauses lose one literal after the other, in time.
func TestUnitsOfLongClauses(t *testing.T) {
	const clauses = 1 << 10
	vars := api.MaxClause + clauses
	f := of(vars)
	// Each clause waits for what the one ahead of it sets.
	for at := range clauses {
		var l []int
		for v := 1; v < api.MaxClause; v++ {
			l = append(l, -(at + v))
		}
		f.Clauses = append(f.Clauses, append(l, at+api.MaxClause))
	}
	slices.Reverse(f.Clauses)
	var l, want []int
	for v := 1; v < api.MaxClause; v++ {
		l = append(l, v)
	}
	for v := 1; v < vars; v++ {
		want = append(want, v)
	}
	if got, may, e := formula.Units(f, l...); !slices.Equal(got, want) || !may || e != api.OK {
		t.Errorf("P11.2: Units of long clauses = %d, %v, %d", len(got), may, e)
	}
	if got, may, e := formula.Units(f, l[1:]...); !slices.Equal(got, l[1:]) || !may || e != api.OK {
		t.Errorf("P11.2: Units of long clauses, one short = %d, %v, %d", len(got), may, e)
	}
	if got, may, e := formula.Units(f, append([]int{-(vars - 1)}, l...)...); got != nil || may || e != api.OK {
		t.Errorf("P11.2: Units of long clauses, of the last one's opposite = %d, %v, %d", len(got), may, e)
	}
}
