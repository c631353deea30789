package trail_test

import (
	"math"
	"slices"
	"testing"

	"interlock/api"
	"interlock/trail"
)

const (
	least    = math.MinInt
	greatest = math.MaxInt
)

// of is a trail of vars variables, on which those literals are set, each for a reason of ten times itself; a 0 stands for one level deeper.
func of(t *testing.T, vars int, list ...int) *trail.Trail {
	t.Helper()
	s := trail.New(vars)
	for _, l := range list {
		if l == 0 {
			s.Deeper()
		} else if !s.Put(l, 10*l) {
			t.Fatalf("P15.1: New(%d), %v: Put(%d) = false", vars, list, l)
		}
	}
	return s
}

// count is how many variables a trail has, which sets none of them: it sets them, from 1 on.
func count(s *trail.Trail) int {
	n := 0
	for s.Put(n+1, 0) {
		n++
	}
	return n
}

// free tells whether a variable is not set, by all that can be asked of it.
func free(s *trail.Trail, v int) bool {
	return s.Value(v) == 0 && s.Value(-v) == 0 && s.Level(v) == -1 && s.Reason(v) == 0
}

// told tells whether a literal is set at a level for a reason, by all that can be asked of it.
func told(s *trail.Trail, l, level, reason int) bool {
	v := max(l, -l)
	return s.Value(l) == 1 && s.Value(-l) == -1 && s.Level(v) == level && s.Reason(v) == reason
}

// lists tells whether those are the literals that are set, by all that can be asked of them.
func lists(s *trail.Trail, want ...int) bool {
	for i, l := range want {
		if s.At(i) != l {
			return false
		}
	}
	return s.At(-1) == 0 && s.At(len(want)) == 0 && s.Len() == len(want) && slices.Equal(s.Lits(), want)
}

func TestNew(t *testing.T) {
	for _, x := range []struct{ vars, want int }{
		{0, 0}, {1, 1}, {2, 2}, {3, 3}, {1000, 1000},
		// Below 0: as 0.
		{-1, 0}, {-5, 0}, {least, 0},
		// Above MaxVars: as that.
		{api.MaxVars - 1, api.MaxVars - 1}, {api.MaxVars, api.MaxVars}, {api.MaxVars + 1, api.MaxVars}, {1 << 40, api.MaxVars}, {greatest, api.MaxVars},
	} {
		s := trail.New(x.vars)
		if s == nil {
			t.Fatalf("P15.1: New(%d) = nil", x.vars)
		}
		if s.Depth() != 0 || !lists(s) {
			t.Errorf("P15.1: New(%d): Depth %d, Lits %v", x.vars, s.Depth(), s.Lits())
		}
		for v := range x.want + 2 {
			if !free(s, v) {
				t.Fatalf("P15.1: New(%d): %d is set", x.vars, v)
			}
		}
		if got := count(s); got != x.want || s.Len() != x.want || s.Depth() != 0 {
			t.Errorf("P15.1: New(%d) has %d variables, Len %d, Depth %d, want %d", x.vars, got, s.Len(), s.Depth(), x.want)
		}
	}
}

func TestPut(t *testing.T) {
	s := trail.New(4)
	for _, x := range []struct {
		l, reason int
		want      bool
		lits      []int
	}{
		{2, 7, true, []int{2}},
		// Set already, either way.
		{2, 7, false, []int{2}}, {2, 8, false, []int{2}}, {-2, 7, false, []int{2}}, {-2, 0, false, []int{2}},
		// The greatest variable's.
		{-4, -3, true, []int{2, -4}}, {-4, 1, false, []int{2, -4}}, {4, 1, false, []int{2, -4}},
		// No variable's.
		{0, 1, false, []int{2, -4}}, {5, 1, false, []int{2, -4}}, {-5, 1, false, []int{2, -4}}, {6, 1, false, []int{2, -4}},
		{api.MaxVars, 1, false, []int{2, -4}}, {api.MaxVars + 1, 1, false, []int{2, -4}}, {-api.MaxVars - 1, 1, false, []int{2, -4}},
		{least, 1, false, []int{2, -4}}, {least + 1, 1, false, []int{2, -4}}, {greatest, 1, false, []int{2, -4}}, {1<<32 + 1, 1, false, []int{2, -4}}, {-1<<32 - 1, 1, false, []int{2, -4}},
		// Reasons of all sizes.
		{-1, least, true, []int{2, -4, -1}}, {1, 0, false, []int{2, -4, -1}}, {3, greatest, true, []int{2, -4, -1, 3}}, {-3, 0, false, []int{2, -4, -1, 3}},
	} {
		if got := s.Put(x.l, x.reason); got != x.want || !lists(s, x.lits...) {
			t.Errorf("P15.1: Put(%d, %d) = %v, Lits %v, want %v, %v", x.l, x.reason, got, s.Lits(), x.want, x.lits)
		}
	}
	for l, reason := range map[int]int{2: 7, -4: -3, -1: least, 3: greatest} {
		if !told(s, l, 0, reason) {
			t.Errorf("P15.1: %d: Value %d, %d, Level %d, Reason %d, want reason %d", l, s.Value(l), s.Value(-l), s.Level(max(l, -l)), s.Reason(max(l, -l)), reason)
		}
	}
}

// TestPutForNothing: what is set for a reason of 0 at level 0 is set as any other.
func TestPutForNothing(t *testing.T) {
	s := trail.New(2)
	for _, l := range []int{1, -2} {
		if !s.Put(l, 0) || s.Put(l, 0) || s.Put(-l, 0) || s.Put(-l, 5) || !told(s, l, 0, 0) {
			t.Errorf("P15.1: Put(%d, 0): Value %d, Level %d, Reason %d", l, s.Value(l), s.Level(max(l, -l)), s.Reason(max(l, -l)))
		}
	}
	if !lists(s, 1, -2) {
		t.Errorf("P15.1: Lits %v, want 1, -2", s.Lits())
	}
}

func TestDeeper(t *testing.T) {
	s := trail.New(5)
	for want := range 1000 {
		if s.Depth() != want {
			t.Fatalf("P15.1: Depth() = %d, want %d", s.Depth(), want)
		}
		if got := s.Deeper(); got != want+1 {
			t.Fatalf("P15.1: Deeper() = %d, want %d", got, want+1)
		}
	}
	if s.Depth() != 1000 || !lists(s) {
		t.Errorf("P15.1: Depth %d, Lits %v", s.Depth(), s.Lits())
	}
	s.Put(-3, 4)
	if s.Depth() != 1000 || !told(s, -3, 1000, 4) {
		t.Errorf("P15.1: -3 is set at level %d of %d", s.Level(3), s.Depth())
	}
	// Levels on which nothing was set are levels, too.
	s.Back(999)
	if s.Depth() != 999 || !lists(s) || s.Deeper() != 1000 || !free(s, 3) {
		t.Errorf("P15.1: Depth %d, Lits %v after Back(999)", s.Depth(), s.Lits())
	}
}

func TestLevels(t *testing.T) {
	s := of(t, 9, 4, -7, 0, 2, 0, 0, -9, -1, 0, 5, 0)
	want := map[int]int{4: 0, -7: 0, 2: 1, -9: 3, -1: 3, 5: 4}
	for l, level := range want {
		if !told(s, l, level, 10*l) {
			t.Errorf("P15.1: %d: Value %d, %d, Level %d, Reason %d, want level %d", l, s.Value(l), s.Value(-l), s.Level(max(l, -l)), s.Reason(max(l, -l)), level)
		}
	}
	for _, v := range []int{3, 6, 8} {
		if !free(s, v) {
			t.Errorf("P15.1: %d is set", v)
		}
	}
	if s.Depth() != 5 || !lists(s, 4, -7, 2, -9, -1, 5) {
		t.Errorf("P15.1: Depth %d, Lits %v", s.Depth(), s.Lits())
	}
}

func TestBack(t *testing.T) {
	for _, x := range []struct {
		level, depth int
		lits         []int
	}{
		// Above the level that is, or to it: nothing.
		{greatest, 4, []int{4, -7, 2, -9, -1, 5}}, {5, 4, []int{4, -7, 2, -9, -1, 5}}, {4, 4, []int{4, -7, 2, -9, -1, 5}},
		{3, 3, []int{4, -7, 2, -9, -1}}, {2, 2, []int{4, -7, 2}}, {1, 1, []int{4, -7, 2}}, {0, 0, []int{4, -7}},
		// Below 0: as 0.
		{-1, 0, []int{4, -7}}, {-4, 0, []int{4, -7}}, {least, 0, []int{4, -7}},
	} {
		s := of(t, 9, 4, -7, 0, 2, 0, 0, -9, -1, 0, 5)
		for range 2 {
			s.Back(x.level)
			if s.Depth() != x.depth || !lists(s, x.lits...) {
				t.Errorf("P15.1: Back(%d): Depth %d, Lits %v, want %d, %v", x.level, s.Depth(), s.Lits(), x.depth, x.lits)
			}
		}
		for l, level := range map[int]int{4: 0, -7: 0, 2: 1, -9: 3, -1: 3, 5: 4} {
			if stays := slices.Contains(x.lits, l); stays && !told(s, l, level, 10*l) || !stays && !free(s, max(l, -l)) {
				t.Errorf("P15.1: Back(%d): %d: Value %d, Level %d, Reason %d", x.level, l, s.Value(l), s.Level(max(l, -l)), s.Reason(max(l, -l)))
			}
		}
		if s.Deeper() != x.depth+1 {
			t.Errorf("P15.1: Back(%d), Deeper: Depth %d, want %d", x.level, s.Depth(), x.depth+1)
		}
	}
}

// TestBackOfNone: a trail at level 0 keeps all that it has, to whatever level it goes back.
func TestBackOfNone(t *testing.T) {
	s := of(t, 3, 1, -3)
	for _, level := range []int{0, -1, least, 1, 2, greatest} {
		s.Back(level)
		if s.Depth() != 0 || !lists(s, 1, -3) || !told(s, 1, 0, 10) || !told(s, -3, 0, -30) {
			t.Errorf("P15.1: Back(%d) at level 0: Depth %d, Lits %v", level, s.Depth(), s.Lits())
		}
	}
}

// TestPutAgain: what is set no more can be set again, either way, at the level that is then, for another reason.
func TestPutAgain(t *testing.T) {
	s := of(t, 3, 3, 0, 1, 0, -2)
	s.Back(0)
	if !s.Put(-1, 5) || s.Put(1, 6) || s.Deeper() != 1 || !s.Put(-2, 8) || s.Put(-3, 1) {
		t.Fatalf("P15.1: Lits %v, Depth %d", s.Lits(), s.Depth())
	}
	if !told(s, 3, 0, 30) || !told(s, -1, 0, 5) || !told(s, -2, 1, 8) || !lists(s, 3, -1, -2) {
		t.Errorf("P15.1: Lits %v, Levels %d, %d, %d", s.Lits(), s.Level(1), s.Level(2), s.Level(3))
	}
	s.Back(0)
	if !lists(s, 3, -1) || !free(s, 2) || !s.Put(2, 0) || !told(s, 2, 0, 0) {
		t.Errorf("P15.1: Lits %v after Back(0)", s.Lits())
	}
}

// TestExample: the chapter's.
func TestExample(t *testing.T) {
	s := trail.New(2)
	s.Put(1, 0)
	s.Deeper()
	s.Put(-2, 0)
	s.Back(0)
	if s.Value(2) != 0 || s.Value(1) != 1 || !lists(s, 1) {
		t.Errorf("P15.1: Values %d, %d, Lits %v", s.Value(1), s.Value(2), s.Lits())
	}
}

// TestOfNone: of what is no variable, no literal and no place there is nothing to tell.
func TestOfNone(t *testing.T) {
	s := of(t, 4, 0, 1, -2, 3, -4)
	for _, n := range []int{0, 5, -5, 6, api.MaxVars, -api.MaxVars, api.MaxVars + 1, 1<<32 + 1, -1<<32 - 1, least, least + 1, greatest} {
		if s.Value(n) != 0 || s.Level(n) != -1 || s.Reason(n) != 0 {
			t.Errorf("P15.1: %d: Value %d, Level %d, Reason %d", n, s.Value(n), s.Level(n), s.Reason(n))
		}
	}
	// Literals below 0 are no variables.
	for v := -4; v < 0; v++ {
		if s.Level(v) != -1 || s.Reason(v) != 0 || s.Value(v) == 0 {
			t.Errorf("P15.1: Level(%d) = %d, Reason %d, Value %d", v, s.Level(v), s.Reason(v), s.Value(v))
		}
	}
}

func TestAt(t *testing.T) {
	s := of(t, 4, 3, -1, 0, 4)
	for _, x := range []struct{ i, want int }{
		{0, 3}, {1, -1}, {2, 4},
		{-1, 0}, {3, 0}, {4, 0}, {-4, 0}, {least, 0}, {greatest, 0}, {1 << 32, 0},
	} {
		if got := s.At(x.i); got != x.want {
			t.Errorf("P15.1: At(%d) = %d, want %d", x.i, got, x.want)
		}
	}
	s.Back(0)
	if s.At(2) != 0 || s.At(1) != -1 || s.At(0) != 3 || s.Len() != 2 {
		t.Errorf("P15.1: At(2) = %d, Len %d after Back", s.At(2), s.Len())
	}
}

func TestGrow(t *testing.T) {
	const most = api.MaxVars
	for _, x := range []struct {
		vars int
		more []int
		want int
	}{
		{0, nil, 0}, {0, []int{3}, 3}, {3, []int{2}, 5}, {3, []int{0}, 3}, {2, []int{1, 1, 1}, 5}, {-5, []int{2}, 2}, {least, []int{2}, 2},
		// Below 0: none.
		{3, []int{-1}, 3}, {3, []int{-3}, 3}, {3, []int{-4, 1}, 4}, {3, []int{least, 1}, 4}, {0, []int{-1}, 0},
		// At most MaxVars in all.
		{0, []int{most - 1}, most - 1}, {0, []int{most}, most}, {0, []int{most + 1}, most}, {0, []int{greatest}, most}, {3, []int{most - 3}, most}, {3, []int{most - 2}, most}, {3, []int{most}, most}, {3, []int{greatest}, most}, {3, []int{greatest - 2}, most},
		{most, []int{1}, most}, {most, []int{0}, most}, {most, []int{-1}, most}, {most, []int{greatest}, most}, {most - 1, []int{1}, most}, {most - 1, []int{2}, most}, {most - 1, []int{1, 1}, most}, {greatest, []int{1, -1, greatest}, most},
	} {
		s := trail.New(x.vars)
		for _, more := range x.more {
			s.Grow(more)
		}
		if s.Depth() != 0 || !lists(s) {
			t.Errorf("P15.1: New(%d), Grow %v: Depth %d, Lits %v", x.vars, x.more, s.Depth(), s.Lits())
		}
		if got := count(s); got != x.want || s.Len() != x.want {
			t.Errorf("P15.1: New(%d), Grow %v: %d variables, Len %d, want %d", x.vars, x.more, got, s.Len(), x.want)
		}
	}
}

// TestCameLater: variables that came later are as the others, and nothing of those changes.
func TestCameLater(t *testing.T) {
	s := of(t, 2, -2, 0, 1)
	if s.Put(3, 1) || s.Put(-3, 1) {
		t.Error("P15.1: Put(3) of 2 variables")
	}
	s.Grow(2)
	if s.Depth() != 1 || !lists(s, -2, 1) || !told(s, -2, 0, -20) || !told(s, 1, 1, 10) || !free(s, 3) || !free(s, 4) {
		t.Errorf("P15.1: Lits %v, Depth %d after Grow", s.Lits(), s.Depth())
	}
	if !s.Put(-4, 6) || s.Put(4, 6) || s.Put(5, 1) || s.Put(2, 1) || !told(s, -4, 1, 6) || !lists(s, -2, 1, -4) {
		t.Errorf("P15.1: Lits %v of what came by Grow", s.Lits())
	}
	s.Back(0)
	s.Grow(-1)
	if !lists(s, -2) || !free(s, 4) || !s.Put(3, 1) || !s.Put(4, 1) || s.Put(5, 1) {
		t.Errorf("P15.1: Lits %v after Back and Grow", s.Lits())
	}
}

// TestNobodyMade: nothing is set, no level is gone up, and nothing grows; a trail of no variables that was made can do so.
func TestNobodyMade(t *testing.T) {
	var zero trail.Trail
	for name, s := range map[string]*trail.Trail{"nil": nil, "no call's": {}, "a variable": &zero} {
		for range 2 {
			if got := s.Deeper(); got != 0 || s.Depth() != 0 || !lists(s) {
				t.Errorf("P15.1: %s: Deeper() = %d, Depth %d, Lits %v", name, got, s.Depth(), s.Lits())
			}
			for _, n := range []int{0, 1, -1, 2, least, greatest} {
				s.Back(n)
				s.Grow(n)
				if s.Put(n, 1) || s.Value(n) != 0 || s.Level(n) != -1 || s.Reason(n) != 0 || s.At(n) != 0 || s.Depth() != 0 || s.Len() != 0 {
					t.Errorf("P15.1: %s, %d: Value %d, Level %d, Reason %d, At %d, Depth %d, Len %d", name, n, s.Value(n), s.Level(n), s.Reason(n), s.At(n), s.Depth(), s.Len())
				}
			}
		}
	}
	if zero != (trail.Trail{}) {
		t.Error("P15.1: something is kept in a trail that nobody made")
	}
	made := trail.New(0)
	if made.Put(1, 0) || made.Deeper() != 1 || made.Depth() != 1 {
		t.Error("P15.1: a trail of no variables has one, or no levels")
	}
	made.Grow(1)
	if !made.Put(1, 0) {
		t.Error("P15.1: a trail of no variables didn't grow")
	}
}

// TestCopied: a copy is an object that no call made; it neither panics nor lets the first one fall apart.
func TestCopied(t *testing.T) {
	s := of(t, 6, 1, 0, -2)
	same := *s
	for _, x := range []*trail.Trail{&same, s, &same, s} {
		x.Grow(2)
		x.Deeper()
		for v := range 12 {
			x.Put(-v, v)
		}
		other := &same
		if x == other {
			other = s
		}
		other.Back(1)
		for v := range 15 {
			if l := x.At(v); l != 0 && x.Value(l) != 1 || l == 0 && v < x.Len() {
				t.Errorf("P15.1: At(%d) = %d of a trail and its copy, Value %d", v, l, x.Value(l))
			}
		}
		x.Back(0)
		other.Put(5, 1)
	}
	if s.Value(1) != 1 {
		t.Errorf("P15.1: Value(1) = %d, want 1", s.Value(1))
	}
}
