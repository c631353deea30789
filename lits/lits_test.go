package lits_test

import (
	"math"
	"slices"
	"sync"
	"testing"
	"unsafe"

	"interlock/api"
	"interlock/lits"
)

const edge = 1 << 40

// parts is what Var, Neg and Not tell of a literal.
type parts struct {
	l        int
	v        int
	neg      bool
	opposite int
}

func checkParts(t *testing.T, cases []parts) {
	t.Helper()
	for _, c := range cases {
		if got := lits.Var(c.l); got != c.v {
			t.Errorf("P2.1: Var(%d) = %d, want %d", c.l, got, c.v)
		}
		if got := lits.Neg(c.l); got != c.neg {
			t.Errorf("P2.1: Neg(%d) = %v, want %v", c.l, got, c.neg)
		}
		if got := lits.Not(c.l); got != c.opposite {
			t.Errorf("P2.1: Not(%d) = %d, want %d", c.l, got, c.opposite)
		}
	}
}

func TestPartsOfALiteral(t *testing.T) {
	checkParts(t, []parts{
		{0, 0, false, 1},
		{1, 0, true, 0},
		{2, 1, false, 3},
		{3, 1, true, 2},
		{6, 3, false, 7},
		{7, 3, true, 6},
		{2 * api.MaxVar, api.MaxVar, false, 2*api.MaxVar + 1},
		{2*api.MaxVar + 1, api.MaxVar, true, 2 * api.MaxVar},
		{2*api.MaxVar + 2, api.MaxVar + 1, false, 2*api.MaxVar + 3},
	})
}

// Var, Neg and Not know no greatest literal.
func TestPartsOfGreatNumbers(t *testing.T) {
	checkParts(t, []parts{
		{edge, edge / 2, false, edge + 1},
		{2 * edge, edge, false, 2*edge + 1},
		{2*edge + 1, edge, true, 2 * edge},
		{2*edge + 2, edge + 1, false, 2*edge + 3},
		{2*edge + 3, edge + 1, true, 2*edge + 2},
		{math.MaxInt - 1, math.MaxInt / 2, false, math.MaxInt},
		{math.MaxInt, math.MaxInt / 2, true, math.MaxInt - 1},
	})
}

// A number below 0 counts as 0, be it odd or even.
func TestPartsOfNumbersBelowZero(t *testing.T) {
	for _, l := range []int{-1, -2, -3, -4, -7, -edge, -edge - 1, math.MinInt + 1, math.MinInt} {
		checkParts(t, []parts{{l, 0, false, 1}})
	}
}

func TestMake(t *testing.T) {
	cases := []struct {
		v    int
		neg  bool
		want int
	}{
		{0, false, 0},
		{0, true, 1},
		{1, false, 2},
		{1, true, 3},
		{3, false, 6},
		{3, true, 7},
		{api.MaxVar, false, 2 * api.MaxVar},
		{api.MaxVar, true, 2*api.MaxVar + 1},
		{api.MaxVar + 1, false, 2*api.MaxVar + 2},
		{api.MaxVar + 1, true, 2*api.MaxVar + 3},
		{edge - 1, false, 2*edge - 2},
		{edge - 1, true, 2*edge - 1},
		{edge, false, 2 * edge},
		{edge, true, 2*edge + 1},
	}
	for _, c := range cases {
		if got := lits.Make(c.v, c.neg); got != c.want {
			t.Errorf("P2.1: Make(%d, %v) = %d, want %d", c.v, c.neg, got, c.want)
		}
	}
}

// Of a variable below 0, or above 2^40, the literal is one of 0.
func TestMakeOfNoVariable(t *testing.T) {
	for _, v := range []int{-1, -2, -3, -edge, math.MinInt, edge + 1, edge + 2, 2 * edge, math.MaxInt / 2, math.MaxInt/2 + 1, math.MaxInt} {
		if got := lits.Make(v, false); got != 0 {
			t.Errorf("P2.1: Make(%d, false) = %d, want 0", v, got)
		}
		if got := lits.Make(v, true); got != 1 {
			t.Errorf("P2.1: Make(%d, true) = %d, want 1", v, got)
		}
	}
}

func TestLiteralsComeBack(t *testing.T) {
	for l := range 2*api.MaxVar + 2 {
		if got := lits.Make(lits.Var(l), lits.Neg(l)); got != l {
			t.Errorf("P2.1: Make of Var and Neg of %d = %d", l, got)
		}
		n := lits.Not(l)
		if lits.Not(n) != l || lits.Var(n) != lits.Var(l) || lits.Neg(n) == lits.Neg(l) {
			t.Errorf("P2.1: Not(%d) = %d is not its opposite", l, n)
		}
	}
}

type checkCase struct {
	max  int
	l    []int
	want api.Errno
}

func checkChecks(t *testing.T, cases []checkCase) {
	t.Helper()
	for _, c := range cases {
		if got := lits.Check(c.max, c.l...); got != c.want {
			t.Errorf("P2.1: Check(%d, %d) = %d, want %d", c.max, c.l, got, c.want)
		}
	}
}

func TestCheck(t *testing.T) {
	checkChecks(t, []checkCase{
		{0, nil, api.OK},
		{0, []int{}, api.OK},
		{0, []int{0}, api.OK},
		{0, []int{1, 0, 1}, api.OK},
		{0, []int{2}, api.ErrRange},
		{0, []int{3}, api.ErrRange},
		{3, []int{0, 1, 2, 3, 4, 5, 6, 7}, api.OK},
		{3, []int{7, 7, 0, 7}, api.OK},
		{3, []int{8}, api.ErrRange},
		{3, []int{9}, api.ErrRange},
		{api.MaxVar, nil, api.OK},
		{api.MaxVar, []int{2 * api.MaxVar, 2*api.MaxVar + 1}, api.OK},
		{api.MaxVar, []int{2*api.MaxVar + 2}, api.ErrRange},
		{api.MaxVar - 1, []int{2*api.MaxVar - 1}, api.OK},
		{api.MaxVar - 1, []int{2 * api.MaxVar}, api.ErrRange},
	})
}

// One that is none is enough, wherever it stands; a number below 0 does not count as 0 here.
func TestCheckFindsTheOne(t *testing.T) {
	for _, n := range []int{-1, -2, -edge, math.MinInt, 8, 9, edge, 2*edge + 1, math.MaxInt - 1, math.MaxInt} {
		checkChecks(t, []checkCase{
			{3, []int{n}, api.ErrRange},
			{3, []int{n, 2, 4}, api.ErrRange},
			{3, []int{2, n, 4}, api.ErrRange},
			{3, []int{2, 4, n}, api.ErrRange},
			{3, []int{n, n}, api.ErrRange},
		})
	}
}

// Greatest variables that no circuit has.
func noGreatest() []int {
	return []int{-1, -2, -edge, math.MinInt, math.MinInt + 1, api.MaxVar + 1, edge, math.MaxInt / 2, math.MaxInt}
}

// Of a greatest variable that no circuit has, any number is refused: one that would lie within it, too.
func TestCheckOfNoGreatestVariable(t *testing.T) {
	for _, max := range noGreatest() {
		for _, l := range [][]int{{0}, {1}, {2, 3}, {-1}, {math.MinInt}, {2*api.MaxVar + 1}, {math.MaxInt}} {
			checkChecks(t, []checkCase{{max, l, api.ErrRange}})
		}
	}
}

// Of no literals none is out of range, whatever the greatest variable is.
func TestCheckOfNone(t *testing.T) {
	for _, max := range append(noGreatest(), 0, 1, api.MaxVar-1, api.MaxVar) {
		checkChecks(t, []checkCase{{max, nil, api.OK}, {max, []int{}, api.OK}})
	}
}

func TestSorted(t *testing.T) {
	cases := []struct {
		l    []int
		want []int
	}{
		{nil, nil},
		{[]int{}, nil},
		{[]int{0}, []int{0}},
		{[]int{6}, []int{6}},
		{[]int{6, 6}, []int{6}},
		{[]int{2, 4, 6}, []int{2, 4, 6}},
		{[]int{6, 4, 2}, []int{2, 4, 6}},
		{[]int{7, 6, 7, 2, 6, 7}, []int{2, 6, 7}},
		{[]int{10, 9, 100, 1}, []int{1, 9, 10, 100}},
		{[]int{0, 1, 0, 1}, []int{0, 1}},
		{[]int{3, -1, 0, -2, -1}, []int{-2, -1, 0, 3}},
		{[]int{math.MaxInt, math.MinInt, 0, math.MaxInt, math.MinInt}, []int{math.MinInt, 0, math.MaxInt}},
		{[]int{2*edge + 1, edge + 1, edge, -edge}, []int{-edge, edge, edge + 1, 2*edge + 1}},
	}
	for _, c := range cases {
		if got := lits.Sorted(c.l...); !slices.Equal(got, c.want) {
			t.Errorf("P2.1: Sorted(%d) = %d, want %d", c.l, got, c.want)
		}
	}
}

// many is numbers in a jumble: each from -n to n, twice, as 2 n and 1 and the step have no divisor in common.
func many(n int) []int {
	const step = 7919
	var l []int
	for i := range 2 * (2*n + 1) {
		l = append(l, i*step%(2*n+1)-n)
	}
	return l
}

func TestSortedOfMany(t *testing.T) {
	const n = 50000
	got := lits.Sorted(many(n)...)
	if len(got) != 2*n+1 {
		t.Fatalf("P2.1: Sorted of %d numbers, twice each, are %d", 2*n+1, len(got))
	}
	for i, x := range got {
		if x != i-n {
			t.Fatalf("P2.1: Sorted of numbers from %d on has %d at %d", -n, x, i)
		}
	}
}

// within tells whether a list, with what lies behind its end, begins in the memory of the other one.
func within(list, whole []int) bool {
	at := uintptr(unsafe.Pointer(unsafe.SliceData(list)))
	begin := uintptr(unsafe.Pointer(unsafe.SliceData(whole)))
	return begin <= at && at < begin+uintptr(cap(whole))*unsafe.Sizeof(0)
}

func TestSortedIsNewMemory(t *testing.T) {
	whole := []int{2, 4, 6, 6, 2, 0}
	for end := range len(whole) + 1 {
		for begin := range end + 1 {
			if got := lits.Sorted(whole[begin:end]...); within(got, whole) {
				t.Errorf("P2.2: Sorted(%d) = %d lies in the list that was handed in", whole[begin:end], got)
			}
		}
	}
	first, second := lits.Sorted(whole...), lits.Sorted(whole...)
	all := first[:cap(first)]
	for i := range all {
		all[i] = -1
	}
	for _, got := range [][]int{second, lits.Sorted(whole...)} {
		if !slices.Equal(got, []int{0, 2, 4, 6}) {
			t.Errorf("P2.2: two answers share memory: %d", got)
		}
	}
}

func TestListsStayAsTheyAre(t *testing.T) {
	whole := []int{7, -1, 6, 7, 2, 6, 99, 98}
	kept := slices.Clone(whole)
	if got := lits.Sorted(whole[:6]...); !slices.Equal(got, []int{-1, 2, 6, 7}) {
		t.Errorf("P2.1: Sorted of a part of a list = %d", got)
	}
	if got := lits.Check(3, whole[:6]...); got != api.ErrRange {
		t.Errorf("P2.1: Check of a part of a list = %d", got)
	}
	if got := lits.Check(3, whole[2:6]...); got != api.OK {
		t.Errorf("P2.1: Check of a part of a list = %d", got)
	}
	if !slices.Equal(whole, kept) {
		t.Errorf("P2.2: a list that was handed in was changed to %d", whole)
	}
}

// What was answered stays as it is, whatever becomes of the list that was handed in.
func TestSortedKeepsNothing(t *testing.T) {
	l := []int{6, 2, 4}
	got := lits.Sorted(l...)
	for i := range l {
		l[i] = 0
	}
	if !slices.Equal(got, []int{2, 4, 6}) {
		t.Errorf("P2.2: Sorted's answer became %d with its argument", got)
	}
}

// P3: the answers hang on the arguments, however many ask at a time.
func TestSameAnswers(t *testing.T) {
	var asked sync.WaitGroup
	shared := many(1000)
	for w := range 8 {
		asked.Add(1)
		go func() {
			defer asked.Done()
			for v := w * 1000; v < w*1000+1000; v++ {
				l := lits.Make(v, v%3 == 0)
				if lits.Var(l) != v || lits.Neg(l) != (v%3 == 0) || lits.Not(l) != lits.Make(v, v%3 != 0) {
					t.Errorf("P3: the literal of %d is %d", v, l)
				}
			}
			if got := lits.Sorted(shared...); len(got) != 2001 || lits.Check(500, got[1000:]...) != api.OK {
				t.Errorf("P3: Sorted answers %d numbers", len(got))
			}
		}()
	}
	asked.Wait()
}
