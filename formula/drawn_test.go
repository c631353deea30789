package formula_test

import (
	"slices"
	"strings"
	"sync"
	"testing"
	"unsafe"

	"interlock/api"
	"interlock/formula"
)

// chance makes numbers, one after the other, always the same ones.
type chance uint64

func (r *chance) below(n int) int {
	*r = *r*6364136223846793005 + 1442695040888963407
	return int(uint64(*r)>>33) % n
}

// literals is up to some literals of the variables from 1 to vars.
func (r *chance) literals(vars, most int) []int {
	var l []int
	for range r.below(most + 1) {
		v := 1 + r.below(vars)
		l = append(l, v-2*v*r.below(2))
	}
	return l
}

// formula is a formula of vars variables, of up to some clauses; few of its clauses are empty.
func (r *chance) formula(vars, clauses, most int) api.Formula {
	f := of(vars)
	for range r.below(clauses + 1) {
		l := r.literals(vars, most)
		if len(l) == 0 && r.below(8) > 0 {
			l = []int{1 + r.below(vars)}
		}
		f.Clauses = append(f.Clauses, l)
	}
	return f
}

// meantTrue tells whether each clause has a literal that a model makes true.
func meantTrue(f api.Formula, model string) bool {
	for _, l := range f.Clauses {
		so := false
		for _, n := range l {
			so = so || n > 0 && model[n-1] == '1' || n < 0 && model[-n-1] == '0'
		}
		if !so {
			return false
		}
	}
	return true
}

// models lists all texts of so many bits, the least one first.
func models(vars int) []string {
	list := []string{""}
	for range vars {
		var longer []string
		for _, m := range list {
			longer = append(longer, m+"0", m+"1")
		}
		list = longer
	}
	return list
}

// meantUnits is what follows by units, looked for again and again through all clauses.
func meantUnits(f api.Formula, l []int) ([]int, bool) {
	set := map[int]bool{}
	for _, n := range l {
		set[n] = true
	}
	for again := true; again; {
		again = false
		for _, c := range f.Clauses {
			open := map[int]bool{}
			for _, n := range c {
				if !set[-n] {
					open[n] = true
				}
			}
			if len(open) == 0 {
				return nil, false
			}
			for n := range open {
				if len(open) == 1 && !set[n] {
					set[n] = true
					again = true
				}
			}
		}
	}
	var list []int
	for v := 1; v <= f.Vars; v++ {
		if set[v] && set[-v] {
			return nil, false
		}
		if set[v] {
			list = append(list, v)
		}
		if set[-v] {
			list = append(list, -v)
		}
	}
	return list, true
}

func TestTrueAndBruteOfDrawn(t *testing.T) {
	r := chance(1)
	found := 0
	for range 3000 {
		f := r.formula(1+r.below(6), 14, 4)
		least, is := "", false
		for _, m := range models(f.Vars) {
			want := meantTrue(f, m)
			if got := formula.True(f, m); got != want {
				t.Fatalf("P11.1: True(%v, %q) = %v", f, m, got)
			}
			if want && !is {
				least, is = m, true
			}
		}
		if is {
			found++
		}
		if got, so, e := formula.Brute(f); got != least || so != is || e != api.OK {
			t.Fatalf("P11.1: Brute(%v) = %q, %v, %d, want %q, %v", f, got, so, e, least, is)
		}
	}
	if found < 500 || found > 2500 {
		t.Errorf("P11.1: of 3000 formulas, %d have a model", found)
	}
}

// As many clauses and variables as there may be, all others than one another, are gone through in time.
func TestBruteOfMany(t *testing.T) {
	r := chance(2)
	of14 := strings.Repeat("0", 14)
	f := of(14)
	for len(f.Clauses) < api.MaxClauses {
		l := r.literals(14, 9)
		// The model of all 0s, and it alone, stays one for sure.
		f.Clauses = append(f.Clauses, append(l, -1-r.below(14)))
	}
	if got, is, e := formula.Brute(f); got != of14 || !is || e != api.OK {
		t.Errorf("P11.1: Brute of many = %q, %v, %d", got, is, e)
	}
	f.Clauses[api.MaxClauses-1] = []int{1, 2, 3, 4, 5, 6, 7, 8, 9, 10, 11, 12, 13, 14}
	if got, is, e := formula.Brute(f); got != "" || is || e != api.OK {
		t.Errorf("P11.1: Brute of many, with one more = %q, %v, %d", got, is, e)
	}
}

func TestUnitsOfDrawn(t *testing.T) {
	r := chance(3)
	let, more := 0, 0
	for range 20000 {
		f := r.formula(1+r.below(9), 16, 5)
		l := r.literals(f.Vars, 3)
		want, may := meantUnits(f, l)
		got, is, e := formula.Units(f, l...)
		if !slices.Equal(got, want) || is != may || e != api.OK {
			t.Fatalf("P11.2: Units(%v, %v) = %v, %v, %d, want %v, %v", f, l, got, is, e, want, may)
		}
		if may {
			let++
		}
		if len(want) > len(l)+2 {
			more++
		}
		// In whatever order clauses, their literals and l stand.
		slices.Reverse(f.Clauses)
		slices.Reverse(l)
		for _, c := range f.Clauses {
			slices.Reverse(c)
		}
		if got, is, e := formula.Units(f, l...); !slices.Equal(got, want) || is != may || e != api.OK {
			t.Fatalf("P11.2: Units(%v, %v) = %v, %v, %d, want %v, %v", f, l, got, is, e, want, may)
		}
	}
	if let < 4000 || let > 16000 || more < 1000 {
		t.Errorf("P11.2: of 20000, %d may be, %d set more", let, more)
	}
}

// Each model that has l has what follows by units; where none may be, there is none.
func TestWhatFollowsIsSo(t *testing.T) {
	r := chance(4)
	looked := 0
	for range 4000 {
		f := r.formula(1+r.below(6), 10, 4)
		l := r.literals(f.Vars, 2)
		got, may, _ := formula.Units(f, l...)
		asked := f
		for _, n := range l {
			asked, _ = formula.Add(asked, []int{n})
		}
		for _, m := range models(f.Vars) {
			if !formula.True(asked, m) {
				continue
			}
			looked++
			units := of(f.Vars)
			for _, n := range got {
				units.Clauses = append(units.Clauses, []int{n})
			}
			if !may || !meantTrue(units, m) {
				t.Fatalf("P11.3: Units(%v, %v) = %v, %v, but %q is a model", f, l, got, may, m)
			}
		}
		if _, is, _ := formula.Brute(asked); is && !may {
			t.Fatalf("P11.3: Units(%v, %v) can't be, but there is a model", f, l)
		}
	}
	if looked < 4000 {
		t.Errorf("P11.3: only %d models", looked)
	}
}

// reach is where the memory of a list begins and ends, also that behind its end.
func reach[T any](l []T) [2]uintptr {
	var one T
	from := uintptr(unsafe.Pointer(unsafe.SliceData(l)))
	return [2]uintptr{from, from + uintptr(cap(l))*unsafe.Sizeof(one)}
}

// lists is where the memory of a formula's lists is, of those that have some.
func lists(f api.Formula) [][2]uintptr {
	all := [][2]uintptr{reach(f.Clauses)}
	for _, l := range f.Clauses {
		all = append(all, reach(l))
	}
	return slices.DeleteFunc(all, func(r [2]uintptr) bool { return r[0] == r[1] })
}

// apart tells whether no two of those have memory in common.
func apart(all [][2]uintptr) bool {
	slices.SortFunc(all, func(a, b [2]uintptr) int { return slices.Compare(a[:], b[:]) })
	for at := 1; at < len(all); at++ {
		if all[at][0] < all[at-1][1] {
			return false
		}
	}
	return true
}

// roomy is a copy of a list with room behind it that is marked.
func roomy(l []int) []int {
	return append(slices.Clone(l), 77, 78, 79, 80)[:len(l)]
}

// roomyOnes is a copy of lists, each one and all with room behind them that is marked.
func roomyOnes(l [][]int) [][]int {
	var list [][]int
	for _, c := range l {
		list = append(list, roomy(c))
	}
	return append(list, []int{81}, []int{82})[:len(l)]
}

// stays tells whether a list of roomy is as it was, also behind its end.
func stays(list, l []int) bool {
	return slices.Equal(list, l) && slices.Equal(list[:len(l)+4][len(l):], []int{77, 78, 79, 80})
}

// stay tells whether lists of roomyOnes are as they were, also behind their ends.
func stay(list, l [][]int) bool {
	behind := list[:len(l)+2][len(l):]
	return slices.EqualFunc(list, l, stays) && slices.Equal(behind[0], []int{81}) && slices.Equal(behind[1], []int{82})
}

func TestMemory(t *testing.T) {
	for _, x := range []struct {
		f api.Formula
		l [][]int
	}{
		{of(3, []int{1, -2}, []int{3}), [][]int{{2}, {-3, 1}}}, {of(3, []int{1, -2}, []int{3}), nil}, {of(3), [][]int{{1}, {1}, {1}}}, {of(3, []int{}, nil, []int{1}), [][]int{{}, nil, {2}}}, {of(2, []int{1}), [][]int{{2}}}, {of(14, []int{14}, []int{-14, 2, 2}), [][]int{{-2, 13}}}, {of(0), nil},
	} {
		f, l := api.Formula{Vars: x.f.Vars, Clauses: roomyOnes(x.f.Clauses)}, roomyOnes(x.l)
		one, e := formula.Add(f, l...)
		other, _ := formula.Add(f, l...)
		again, _ := formula.Add(one)
		if e != api.OK || !same(one, other) || !same(one, again) {
			t.Fatalf("P11.4: Add(%v, %v) = %v, %v, %v, %d", x.f, x.l, one, other, again, e)
		}
		kept := []int{3, -1}
		if x.f.Vars < 3 {
			kept = nil
		}
		asked := roomy(kept)
		units, _, _ := formula.Units(f, asked...)
		units2, _, _ := formula.Units(f, asked...)
		formula.Check(f)
		formula.True(f, strings.Repeat("1", f.Vars))
		formula.Brute(f)
		if !stay(f.Clauses, x.f.Clauses) || !stay(l, x.l) || !stays(asked, kept) || f.Vars != x.f.Vars {
			t.Fatalf("P11.4: %v, %v, %v were changed to %v, %v, %v", x.f, x.l, kept, f, l, asked)
		}
		all := slices.Concat(lists(f), lists(api.Formula{Clauses: l}), lists(one), lists(other), lists(again), lists(api.Formula{Clauses: [][]int{asked, units, units2}}))
		if !apart(all) {
			t.Fatalf("P11.4: of %v, %v: lists share memory", x.f, x.l)
		}
		// One answer is changed, and so is what was handed in: the others stay.
		for _, changed := range [][][]int{f.Clauses, l, other.Clauses, again.Clauses} {
			for at, c := range changed {
				for i := range c {
					c[i] = 1000
				}
				changed[at] = append(c, 1001)
			}
		}
		if want := of(x.f.Vars, slices.Concat(x.f.Clauses, x.l)...); !same(one, want) {
			t.Fatalf("P11.4: Add(%v, %v) was changed to %v", x.f, x.l, one)
		}
	}
}

// One list that is handed in more than once is told as lists of their own.
func TestOfOneList(t *testing.T) {
	c := []int{1, -2}
	got, e := formula.Add(of(2, c, c), c, c)
	if e != api.OK || !same(got, many(2, 4, 1, -2)) || !apart(append(lists(got), reach(c))) {
		t.Errorf("P11.4: Add of one list = %v, %d", got, e)
	}
	if got, is, _ := formula.Brute(of(2, c, c)); got != "00" || !is {
		t.Errorf("P11.1: Brute of one list = %q, %v", got, is)
	}
}

// A text that Brute tells is in memory of its own.
func TestTextsAreNew(t *testing.T) {
	for _, f := range []api.Formula{of(1), of(1, []int{1}), of(2, []int{1}), of(14, []int{14})} {
		one, _, _ := formula.Brute(f)
		other, _, _ := formula.Brute(f)
		if one != other || unsafe.StringData(one) == unsafe.StringData(other) {
			t.Errorf("P11.4: Brute(%v): %q and %q share memory", f, one, other)
		}
	}
}

func TestAtOneTime(t *testing.T) {
	f := of(6, []int{1, 2}, []int{-2, 3}, []int{-3, 4, 4}, []int{-4, -5}, []int{5, 6})
	var wait sync.WaitGroup
	for range 8 {
		wait.Go(func() {
			for range 200 {
				units, may, e := formula.Units(f, -1)
				least, is, _ := formula.Brute(f)
				more, _ := formula.Add(f, []int{-6})
				if !slices.Equal(units, []int{-1, 2, 3, 4, -5, 6}) || !may || e != api.OK || least != "011101" || !is || formula.True(more, least) || !formula.True(f, least) || formula.Check(more) != api.OK {
					t.Errorf("P11.4: other answers at one time: %v, %q", units, least)
					return
				}
			}
		})
	}
	wait.Wait()
}
