package clause_test

import (
	"math"
	"slices"
	"sync"
	"testing"
	"unsafe"

	"interlock/api"
	"interlock/clause"
)

const (
	least    = math.MinInt
	greatest = math.MaxInt
)

// repeated is a clause of n literals, all alike.
func repeated(n, l int) []int {
	return slices.Repeat([]int{l}, n)
}

// upTo is a clause of the variables from 1 to n.
func upTo(n int) []int {
	var l []int
	for v := range n {
		l = append(l, v+1)
	}
	return l
}

func TestCheck(t *testing.T) {
	for _, x := range []struct {
		vars int
		l    []int
		want api.Errno
	}{
		{3, []int{1, -2, 3}, api.OK}, {3, []int{3, 2, 1}, api.OK}, {1, []int{1}, api.OK}, {1, []int{-1}, api.OK},
		// Alike ones, and both of a variable's.
		{2, []int{2, 2, 2}, api.OK}, {2, []int{1, -1}, api.OK}, {2, []int{-1, 1, -1}, api.OK},
		// No literals, of any number of variables.
		{3, nil, api.OK}, {3, []int{}, api.OK}, {0, nil, api.OK}, {0, []int{}, api.OK}, {-1, nil, api.OK}, {least, nil, api.OK}, {greatest, nil, api.OK},
		// 0, at the beginning, within, at the end, alone.
		{3, []int{0}, api.ErrRange}, {3, []int{0, 1, 2}, api.ErrRange}, {3, []int{1, 0, 2}, api.ErrRange}, {3, []int{1, 2, 0}, api.ErrRange}, {0, []int{0}, api.ErrRange}, {-1, []int{0}, api.ErrRange},
		// Of variable vars, and one more.
		{3, []int{3}, api.OK}, {3, []int{-3}, api.OK}, {3, []int{4}, api.ErrRange}, {3, []int{-4}, api.ErrRange}, {3, []int{1, 2, 4}, api.ErrRange}, {3, []int{-4, 1, 2}, api.ErrRange}, {3, []int{1, -4, 2}, api.ErrRange},
		{api.MaxVars, []int{api.MaxVars, -api.MaxVars}, api.OK}, {api.MaxVars, []int{api.MaxVars + 1}, api.ErrRange}, {api.MaxVars, []int{-api.MaxVars - 1}, api.ErrRange},
		// Of 0 variables and below.
		{0, []int{1}, api.ErrRange}, {0, []int{-1}, api.ErrRange}, {-1, []int{1}, api.ErrRange}, {-1, []int{-1}, api.ErrRange}, {-3, []int{-3}, api.ErrRange}, {-3, []int{3}, api.ErrRange}, {least, []int{1}, api.ErrRange}, {least, []int{least}, api.ErrRange}, {least, []int{-1}, api.ErrRange},
		// The least int is none, and those beside it are.
		{3, []int{least}, api.ErrRange}, {3, []int{1, least}, api.ErrRange}, {greatest, []int{least}, api.ErrRange}, {greatest, []int{1, least, 2}, api.ErrRange}, {greatest, []int{least + 1}, api.OK}, {greatest, []int{greatest}, api.OK}, {greatest - 1, []int{greatest}, api.ErrRange}, {greatest - 1, []int{least + 1}, api.ErrRange}, {greatest - 1, []int{least + 2}, api.OK},
		// As many as there may be, and one more.
		{1, repeated(api.MaxClause-1, 1), api.OK}, {1, repeated(api.MaxClause, 1), api.OK}, {1, repeated(api.MaxClause, -1), api.OK}, {1, repeated(api.MaxClause+1, 1), api.ErrLong}, {api.MaxClause, upTo(api.MaxClause), api.OK}, {api.MaxClause - 1, upTo(api.MaxClause), api.ErrRange}, {api.MaxClause + 1, upTo(api.MaxClause + 1), api.ErrLong},
		// Too many are told ahead of what they are.
		{1, repeated(api.MaxClause+1, 0), api.ErrLong}, {0, repeated(api.MaxClause+1, 1), api.ErrLong}, {-1, repeated(api.MaxClause+1, least), api.ErrLong}, {1, repeated(api.MaxClause, 2), api.ErrRange}, {1, repeated(1<<18, 2), api.ErrLong},
	} {
		if got := clause.Check(x.vars, x.l); got != x.want {
			t.Errorf("P10.1: Check(%d, %d of %v) = %d, want %d", x.vars, len(x.l), x.l[:min(len(x.l), 4)], got, x.want)
		}
	}
}

func TestNorm(t *testing.T) {
	for _, x := range []struct {
		l, want []int
		always  bool
	}{
		{[]int{1, 2, 3}, []int{1, 2, 3}, false}, {[]int{3, 1, 2}, []int{1, 2, 3}, false}, {[]int{-3, 1, -2}, []int{1, -2, -3}, false}, {[]int{10, -9, 2, -1}, []int{-1, 2, -9, 10}, false}, {[]int{7}, []int{7}, false}, {[]int{-7}, []int{-7}, false},
		// No literals, and 0s.
		{nil, nil, false}, {[]int{}, nil, false}, {[]int{0}, nil, false}, {[]int{0, 0, 0}, nil, false}, {[]int{0, 2}, []int{2}, false}, {[]int{2, 0}, []int{2}, false}, {[]int{3, 0, 0, -2, 0}, []int{-2, 3}, false},
		// Alike ones.
		{[]int{2, 2}, []int{2}, false}, {[]int{-2, -2, -2}, []int{-2}, false}, {[]int{5, -4, 5, 1, -4, 5}, []int{1, -4, 5}, false}, {[]int{2, 0, 2}, []int{2}, false},
		// Both of a variable's, the one below 0 first.
		{[]int{1, -1}, []int{-1, 1}, true}, {[]int{-1, 1}, []int{-1, 1}, true}, {[]int{2, 3, -2}, []int{-2, 2, 3}, true}, {[]int{-3, 1, 3}, []int{1, -3, 3}, true}, {[]int{2, -2, 2, -2, 0}, []int{-2, 2}, true}, {[]int{2, -2, -1, 1}, []int{-1, 1, -2, 2}, true}, {[]int{9, 4, -5, -4, 1}, []int{1, -4, 4, -5, 9}, true},
		{[]int{1, -2, 3, -4}, []int{1, -2, 3, -4}, false},
		// The least int is ahead of all others, and no opposite of itself; the greatest has one.
		{[]int{least}, []int{least}, false}, {[]int{least, least}, []int{least}, false}, {[]int{1, least}, []int{least, 1}, false}, {[]int{-1, least, 0}, []int{least, -1}, false}, {[]int{1, least, -1}, []int{least, -1, 1}, true}, {[]int{greatest, least, 1}, []int{least, 1, greatest}, false}, {[]int{-5, 5, least, 2, least}, []int{least, 2, -5, 5}, true},
		{[]int{greatest}, []int{greatest}, false}, {[]int{greatest, 1}, []int{1, greatest}, false}, {[]int{greatest, least + 1}, []int{least + 1, greatest}, true}, {[]int{greatest, least, least + 1}, []int{least, least + 1, greatest}, true}, {[]int{greatest, least + 2}, []int{least + 2, greatest}, false}, {[]int{least + 1, greatest - 1}, []int{greatest - 1, least + 1}, false},
	} {
		if got, always := clause.Norm(x.l); !slices.Equal(got, x.want) || always != x.always {
			t.Errorf("P10.1: Norm(%v) = %v, %v, want %v, %v", x.l, got, always, x.want, x.always)
		}
	}
}

func TestSubsumes(t *testing.T) {
	for _, x := range []struct {
		a, b []int
		want bool
	}{
		{[]int{1}, []int{1, 2}, true}, {[]int{2}, []int{1, 2}, true}, {[]int{1, 2}, []int{1, 2}, true}, {[]int{1, 2}, []int{1}, false}, {[]int{1, 3}, []int{1, 2}, false}, {[]int{3, 1}, []int{1, 2}, false}, {[]int{3}, []int{1, 2}, false},
		// The other literal of a variable.
		{[]int{-1}, []int{1, 2}, false}, {[]int{1}, []int{-1, 2}, false}, {[]int{-1, 2}, []int{2, -1}, true}, {[]int{-1}, []int{1, -1}, true}, {[]int{1, -1}, []int{1}, false}, {[]int{1, -1}, []int{-1, 1}, true},
		// An empty clause.
		{nil, nil, true}, {[]int{}, nil, true}, {nil, []int{}, true}, {nil, []int{1, 2}, true}, {[]int{}, []int{1}, true}, {[]int{1}, nil, false}, {[]int{1}, []int{}, false},
		// Alike literals, more than once.
		{[]int{1, 1, 1}, []int{1}, true}, {[]int{1, 1, 1}, []int{2, 1}, true}, {[]int{1, 2, 1}, []int{1, 3, 3, 3}, false}, {[]int{1}, []int{1, 1}, true}, {[]int{2, 2}, []int{1, 1, 1}, false}, {[]int{1, 1, 2}, []int{2, 1}, true},
		// In another order.
		{[]int{3, 1, 2}, []int{1, 2, 3}, true}, {[]int{1, 2, 3}, []int{3, 2, 1, 4}, true}, {[]int{4, -2}, []int{-2, 3, 4, 1}, true}, {[]int{4, 2}, []int{-2, 3, 4, 1}, false},
		// The least int and the greatest.
		{[]int{least}, []int{1, least}, true}, {[]int{least}, []int{greatest, least + 1}, false}, {[]int{greatest}, []int{greatest}, true}, {[]int{greatest}, []int{least + 1}, false}, {[]int{least + 1}, []int{greatest}, false},
		// Long ones.
		{upTo(api.MaxClause), upTo(api.MaxClause), true}, {upTo(api.MaxClause + 1), upTo(api.MaxClause), false}, {upTo(api.MaxClause), append([]int{api.MaxClause + 1}, upTo(api.MaxClause)...), true}, {[]int{api.MaxClause, 1, 500}, clause.Not(clause.Not(upTo(api.MaxClause))), true}, {[]int{-5}, upTo(api.MaxClause), false}, {[]int{5, api.MaxClause, -900}, append(clause.Not(upTo(api.MaxClause)), 5, api.MaxClause), true}, {nil, upTo(api.MaxClause), true},
	} {
		if got := clause.Subsumes(x.a, x.b); got != x.want {
			t.Errorf("P10.1: Subsumes(%d of %v, %d of %v) = %v", len(x.a), x.a[:min(len(x.a), 8)], len(x.b), x.b[:min(len(x.b), 8)], got)
		}
	}
}

func TestNot(t *testing.T) {
	for _, x := range []struct{ l, want []int }{
		{nil, nil}, {[]int{}, nil}, {[]int{1}, []int{-1}}, {[]int{-1}, []int{1}}, {[]int{3, -1, 2}, []int{-3, 1, -2}}, {[]int{2, 2, -2}, []int{-2, -2, 2}},
		// 0 and the least int are opposites of themselves; they stay where they are.
		{[]int{0}, []int{0}}, {[]int{1, 0, 2}, []int{-1, 0, -2}}, {[]int{least}, []int{least}}, {[]int{5, least, -4, 0}, []int{-5, least, 4, 0}},
		{[]int{greatest}, []int{least + 1}}, {[]int{least + 1}, []int{greatest}},
	} {
		if got := clause.Not(x.l); !slices.Equal(got, x.want) {
			t.Errorf("P10.1: Not(%v) = %v, want %v", x.l, got, x.want)
		}
	}
}

func TestSame(t *testing.T) {
	for _, x := range []struct {
		a, b []int
		want bool
	}{
		{[]int{1, 2}, []int{1, 2}, true}, {[]int{1}, []int{2}, false}, {[]int{1}, []int{-1}, false}, {[]int{1}, []int{1, 2}, false}, {[]int{1, 2}, []int{2}, false}, {[]int{1, 2}, []int{1, 3}, false},
		// In order, in alike ones, in 0s.
		{[]int{1, -2, 3}, []int{3, 1, -2}, true}, {[]int{2, 1}, []int{1, 2}, true}, {[]int{1, 1}, []int{1}, true}, {[]int{1, 2, 1, 2}, []int{2, 1, 1}, true}, {[]int{0, 1}, []int{1}, true}, {[]int{1}, []int{0, 1, 0}, true}, {[]int{2, 0, -1, 2}, []int{-1, 2}, true}, {[]int{2, 0, -1, 2}, []int{1, 2}, false},
		// None.
		{nil, nil, true}, {nil, []int{}, true}, {nil, []int{0}, true}, {[]int{0, 0}, []int{}, true}, {nil, []int{1}, false}, {[]int{-1}, []int{0}, false},
		// Two that are always true are not one, if their literals differ.
		{[]int{1, -1}, []int{-1, 1}, true}, {[]int{1, -1}, []int{2, -2}, false}, {[]int{1, -1}, []int{1}, false}, {[]int{1, -1}, []int{1, -1, 2}, false}, {[]int{1, -1}, nil, false},
		{[]int{least, 1}, []int{1, least, least}, true}, {[]int{least}, nil, false}, {[]int{least}, []int{least + 1}, false}, {[]int{greatest}, []int{least + 1}, false}, {[]int{greatest, 0}, []int{greatest}, true},
	} {
		if got := clause.Same(x.a, x.b); got != x.want {
			t.Errorf("P10.1: Same(%v, %v) = %v", x.a, x.b, got)
		}
		if got := clause.Same(x.b, x.a); got != x.want {
			t.Errorf("P10.1: Same(%v, %v) = %v", x.b, x.a, got)
		}
	}
}

func TestResolve(t *testing.T) {
	for _, x := range []struct {
		a, b []int
		v    int
		want []int
		e    api.Errno
	}{
		{[]int{1, 2}, []int{-1, 3}, 1, []int{2, 3}, api.OK}, {[]int{3, -2, 5}, []int{4, 1, -5}, 5, []int{1, -2, 3, 4}, api.OK}, {[]int{2, 1}, []int{-1, 2}, 1, []int{2}, api.OK},
		// Nothing left.
		{[]int{1}, []int{-1}, 1, nil, api.OK}, {[]int{1, 1}, []int{-1, -1, -1}, 1, nil, api.OK}, {[]int{0, 1}, []int{-1, 0}, 1, nil, api.OK}, {[]int{1}, []int{-1, 2}, 1, []int{2}, api.OK}, {[]int{1, 2}, []int{-1}, 1, []int{2}, api.OK},
		// Each of those that are alike goes, and 0s do.
		{[]int{1, 2, 1, 2}, []int{-1, 3, -1, 3}, 1, []int{2, 3}, api.OK}, {[]int{9, 0, 4}, []int{0, -4, -3}, 4, []int{-3, 9}, api.OK},
		// Both in one clause: the other one stays.
		{[]int{1, -1}, []int{-1, 2}, 1, []int{-1, 2}, api.OK}, {[]int{1, 2}, []int{1, -1}, 1, []int{1, 2}, api.OK}, {[]int{1, -1}, []int{-1, 1}, 1, []int{-1, 1}, api.OK}, {[]int{-1, 3, 1}, []int{2, -1}, 1, []int{-1, 2, 3}, api.OK},
		// What is always true behind it.
		{[]int{1, 2}, []int{-1, -2}, 1, []int{-2, 2}, api.OK}, {[]int{1, 2, 5}, []int{-2, -5, -1}, 5, []int{-1, 1, -2, 2}, api.OK}, {[]int{1, 3, -3}, []int{-1}, 1, []int{-3, 3}, api.OK},
		// v is below 1.
		{[]int{1, 2}, []int{-1, 3}, 0, nil, api.ErrNone}, {[]int{0, 2}, []int{0, 3}, 0, nil, api.ErrNone}, {[]int{-1, 3}, []int{1, 2}, -1, nil, api.ErrNone}, {[]int{least}, []int{least}, least, nil, api.ErrNone}, {[]int{1}, []int{-1}, least, nil, api.ErrNone}, {[]int{least + 1}, []int{greatest}, least + 1, nil, api.ErrNone},
		// a is without v, b without its opposite.
		{[]int{2}, []int{-1, 3}, 1, nil, api.ErrNone}, {[]int{1, 2}, []int{3}, 1, nil, api.ErrNone}, {[]int{-1, 2}, []int{1, 3}, 1, nil, api.ErrNone}, {[]int{-1}, []int{-1}, 1, nil, api.ErrNone}, {[]int{1}, []int{1}, 1, nil, api.ErrNone}, {[]int{1, 2}, []int{-1, 3}, 2, nil, api.ErrNone}, {[]int{1, 2}, []int{-1, 3}, 3, nil, api.ErrNone}, {[]int{1, -1}, []int{1}, 1, nil, api.ErrNone}, {[]int{-1}, []int{1, -1}, 1, nil, api.ErrNone},
		{nil, nil, 1, nil, api.ErrNone}, {[]int{1}, nil, 1, nil, api.ErrNone}, {nil, []int{-1}, 1, nil, api.ErrNone}, {[]int{}, []int{}, 0, nil, api.ErrNone}, {[]int{1, 2}, []int{-1, 3}, greatest, nil, api.ErrNone},
		// The greatest and the least.
		{[]int{greatest, 1}, []int{least + 1, 2}, greatest, []int{1, 2}, api.OK}, {[]int{1, least}, []int{-1, 2, least}, 1, []int{least, 2}, api.OK}, {[]int{greatest, least}, []int{least, 1}, greatest, nil, api.ErrNone},
	} {
		if got, e := clause.Resolve(x.a, x.b, x.v); !slices.Equal(got, x.want) || e != x.e || e != api.OK && got != nil {
			t.Errorf("P10.2: Resolve(%v, %v, %d) = %v, %d, want %v, %d", x.a, x.b, x.v, got, e, x.want, x.e)
		}
	}
}

// chance makes numbers, one after the other, always the same ones.
type chance uint64

func (r *chance) below(n int) int {
	*r = *r*6364136223846793005 + 1442695040888963407
	return int(uint64(*r)>>33) % n
}

// numbers is up to some numbers from -vars to vars.
func (r *chance) numbers(most, vars int) []int {
	var l []int
	for range r.below(most + 1) {
		l = append(l, r.below(2*vars+1)-vars)
	}
	return l
}

// meantNorm is a clause of variables up to vars in order, worked out variable by variable.
func meantNorm(l []int, vars int) ([]int, bool) {
	var list []int
	always := false
	for v := 1; v <= vars; v++ {
		not, is := slices.Contains(l, -v), slices.Contains(l, v)
		if not {
			list = append(list, -v)
		}
		if is {
			list = append(list, v)
		}
		always = always || not && is
	}
	return list, always
}

func TestOfDrawn(t *testing.T) {
	r := chance(10)
	for _, size := range []struct{ times, most, vars int }{{4000, 6, 4}, {1000, 60, 30}, {500, 60, 300}, {20, 3000, 1000}} {
		for range size.times {
			a, b := r.numbers(size.most, size.vars), r.numbers(size.most, size.vars)
			normed, always := clause.Norm(a)
			want, so := meantNorm(a, size.vars)
			if !slices.Equal(normed, want) || always != so {
				t.Fatalf("P10.1: Norm(%v) = %v, %v, want %v, %v", a, normed, always, want, so)
			}
			other, _ := meantNorm(b, size.vars)
			if got := clause.Same(a, b); got != slices.Equal(want, other) {
				t.Fatalf("P10.1: Same(%v, %v) = %v", a, b, got)
			}
			mixed := append(slices.Clone(normed), a...)
			slices.Reverse(mixed)
			if !clause.Same(a, mixed) || !clause.Same(normed, a) || !clause.Subsumes(normed, a) {
				t.Fatalf("P10.1: %v and %v: not the same, or not subsumed", a, mixed)
			}
			all := true
			for _, n := range a {
				all = all && slices.Contains(b, n)
			}
			if got := clause.Subsumes(a, b); got != all {
				t.Fatalf("P10.1: Subsumes(%v, %v) = %v", a, b, got)
			}
			if got := clause.Subsumes(a, append(b, a...)); !got {
				t.Fatalf("P10.1: Subsumes(%v, %v) = %v", a, append(b, a...), got)
			}
			wanted := api.OK
			for _, n := range a {
				if n == 0 || n < -size.vars/2 || n > size.vars/2 {
					wanted = api.ErrRange
				}
			}
			if len(a) > api.MaxClause {
				wanted = api.ErrLong
			}
			if got := clause.Check(size.vars/2, a); got != wanted {
				t.Fatalf("P10.1: Check(%d, %v) = %d, want %d", size.vars/2, a, got, wanted)
			}
		}
	}
}

// holds tells whether a clause has a literal that is true, where bit v-1 of a model is that of variable v.
func holds(l []int, model int) bool {
	return slices.ContainsFunc(l, func(n int) bool {
		return n > 0 && model>>(n-1)&1 == 1 || n < 0 && model>>(-n-1)&1 == 0
	})
}

func TestWhatIsResolvedFollows(t *testing.T) {
	const vars = 5
	r := chance(11)
	resolved := 0
	for range 20000 {
		a, b, v := r.numbers(6, vars), r.numbers(6, vars), r.below(vars+2)-1
		got, e := clause.Resolve(a, b, v)
		may := v >= 1 && slices.Contains(a, v) && slices.Contains(b, -v)
		if may != (e == api.OK) || !may && e != api.ErrNone {
			t.Fatalf("P10.2: Resolve(%v, %v, %d) = %v, %d", a, b, v, got, e)
		}
		if !may {
			continue
		}
		resolved++
		rest := slices.DeleteFunc(slices.Clone(a), func(n int) bool { return n == v })
		rest = append(rest, slices.DeleteFunc(slices.Clone(b), func(n int) bool { return n == -v })...)
		if want, _ := meantNorm(rest, vars); !slices.Equal(got, want) {
			t.Fatalf("P10.2: Resolve(%v, %v, %d) = %v, want %v", a, b, v, got, want)
		}
		for model := range 1 << vars {
			if holds(a, model) && holds(b, model) && !holds(got, model) {
				t.Fatalf("P10.3: Resolve(%v, %v, %d) = %v: false where both are true: %b", a, b, v, got, model)
			}
		}
	}
	if resolved < 400 {
		t.Errorf("P10.3: only %d were resolved", resolved)
	}
}

// shares tells whether two lists have memory in common, also that behind their ends.
func shares(a, b []int) bool {
	if cap(a) == 0 || cap(b) == 0 {
		return false
	}
	from, other := uintptr(unsafe.Pointer(unsafe.SliceData(a))), uintptr(unsafe.Pointer(unsafe.SliceData(b)))
	size := unsafe.Sizeof(0)
	return from < other+uintptr(cap(b))*size && other < from+uintptr(cap(a))*size
}

// roomy is a copy of a list with room behind it that is marked.
func roomy(l []int) []int {
	list := append(slices.Clone(l), 77, 78, 79, 80)
	return list[:len(l)]
}

// stays tells whether a list of roomy is as it was, also behind its end.
func stays(list, l []int) bool {
	return slices.Equal(list, l) && slices.Equal(list[:len(l)+4][len(l):], []int{77, 78, 79, 80})
}

func TestMemory(t *testing.T) {
	for _, x := range []struct {
		a, b []int
		v    int
	}{
		{[]int{1, 2}, []int{-1, 3}, 1}, {[]int{2}, []int{-2}, 2}, {nil, nil, 1}, {[]int{3, 1, 1, 0, -2}, []int{0, -3, 4, least}, 3}, {[]int{1, 2, 3}, []int{1, 2, 3}, 1}, {[]int{-1, 1}, []int{1, -1}, 1}, {clause.Not(upTo(100)), append(upTo(200), -7), 7}, {append(clause.Not(upTo(100)), 7), append(upTo(200), -7), 7}, {[]int{1, 5}, []int{-1}, 1}, {[]int{1}, []int{-1, 5}, 1},
	} {
		a, b := roomy(x.a), roomy(x.b)
		normed, _ := clause.Norm(a)
		again, _ := clause.Norm(a)
		inOrder, _ := clause.Norm(normed)
		opposite := clause.Not(a)
		other := clause.Not(a)
		both, _ := clause.Resolve(a, b, x.v)
		twice, _ := clause.Resolve(a, b, x.v)
		clause.Check(9, a)
		clause.Subsumes(a, b)
		clause.Subsumes(b, a)
		clause.Same(a, b)
		if !stays(a, x.a) || !stays(b, x.b) {
			t.Fatalf("P10.4: %v, %v were changed to %v, %v", x.a, x.b, a, b)
		}
		told := [][]int{a, b, normed, again, inOrder, opposite, other, both, twice}
		for i, one := range told {
			for j, two := range told {
				if i != j && shares(one, two) {
					t.Fatalf("P10.4: of %v, %v: answers %d and %d share memory", x.a, x.b, i, j)
				}
			}
		}
		kept := slices.Clone(normed)
		for _, list := range [][]int{a, b, again, inOrder, opposite, other, both, twice} {
			for at := range list {
				list[at] = 1000
			}
		}
		if !slices.Equal(normed, kept) {
			t.Fatalf("P10.4: Norm(%v) was changed", x.a)
		}
		if got, _ := clause.Norm(roomy(x.a)); !slices.Equal(got, kept) {
			t.Fatalf("P10.4: Norm(%v) = %v, behind another: %v", x.a, got, kept)
		}
	}
}

// One list, handed in twice.
func TestOfOneList(t *testing.T) {
	l := []int{2, 0, -1, 1, 2}
	got, e := clause.Resolve(l, l, 1)
	if !slices.Equal(got, []int{-1, 1, 2}) || e != api.OK || !clause.Same(l, l) || !clause.Subsumes(l, l) || !slices.Equal(l, []int{2, 0, -1, 1, 2}) {
		t.Errorf("P10.2: Resolve(l, l, 1) = %v, %d; l is %v", got, e, l)
	}
}

// Lists that no formula would have are looked through in time.
func TestOfLongLists(t *testing.T) {
	const n = 1 << 19
	rising, falling := upTo(n), upTo(n)
	slices.Reverse(falling)
	if !clause.Subsumes(rising, falling) || !clause.Same(rising, falling) || clause.Subsumes(append(rising, n+1), falling) || clause.Subsumes(clause.Not(rising), falling) {
		t.Errorf("P10.1: long lists are not the same")
	}
	if got, always := clause.Norm(append(clause.Not(rising), falling...)); len(got) != 2*n || !always || got[0] != -1 || got[1] != 1 || got[2*n-1] != n {
		t.Errorf("P10.1: Norm of a long list: %d, %v", len(got), always)
	}
	if got, e := clause.Resolve(append(falling, n+1), append(rising, -n-1), n+1); !slices.Equal(got, rising) || e != api.OK {
		t.Errorf("P10.2: Resolve of long lists: %d, %d", len(got), e)
	}
}

func TestAtOneTime(t *testing.T) {
	a, b := []int{3, -1, 0, 2, 3, least}, append(clause.Not(upTo(60)), 2)
	var wait sync.WaitGroup
	for range 8 {
		wait.Go(func() {
			for range 200 {
				normed, always := clause.Norm(a)
				both, e := clause.Resolve(a, b, 3)
				if !slices.Equal(normed, []int{least, -1, 2, 3}) || always || e != api.OK || len(both) != 61 || !clause.Subsumes(a[1:2], b) || clause.Same(a, b) || clause.Check(60, b) != api.OK || clause.Not(a)[0] != -3 {
					t.Errorf("P10.4: other answers at one time")
					return
				}
			}
		})
	}
	wait.Wait()
}
