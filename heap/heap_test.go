package heap_test

import (
	"math"
	"slices"
	"testing"

	"interlock/api"
	"interlock/heap"
)

const (
	least    = math.MinInt
	greatest = math.MaxInt

	mostRaise = 1 << 40
	mostScore = 1 << 50
)

// of is a heap of n numbers, with those in it.
func of(t *testing.T, n int, in ...int) *heap.Heap {
	t.Helper()
	h := heap.New(n)
	for _, x := range in {
		if !h.Push(x) {
			t.Fatalf("P14.1: New(%d).Push(%d) = false", n, x)
		}
	}
	return h
}

// popped lists all that comes out, till there is none.
func popped(h *heap.Heap) []int {
	var list []int
	for x, is := h.Pop(); is; x, is = h.Pop() {
		list = append(list, x)
	}
	return list
}

// raised makes a number's score that, which is 0, by as many raises as it takes.
func raised(h *heap.Heap, x, score int) {
	for ; score > 0; score -= min(score, mostRaise) {
		h.Raise(x, min(score, mostRaise))
	}
}

// count is how many numbers a heap has: it pushes them, from 0 on.
func count(h *heap.Heap) int {
	n := 0
	for h.Push(n) {
		n++
	}
	return n
}

func TestNew(t *testing.T) {
	for _, x := range []struct{ n, want int }{
		{0, 0}, {1, 1}, {2, 2}, {3, 3}, {1000, 1000},
		// Below 0: as 0.
		{-1, 0}, {-5, 0}, {least, 0},
		// Above MaxVars: as that.
		{api.MaxVars - 1, api.MaxVars - 1}, {api.MaxVars, api.MaxVars}, {api.MaxVars + 1, api.MaxVars}, {1 << 40, api.MaxVars}, {greatest, api.MaxVars},
	} {
		h := heap.New(x.n)
		if h == nil {
			t.Fatalf("P14.1: New(%d) = nil", x.n)
		}
		if h.Len() != 0 {
			t.Errorf("P14.1: New(%d).Len() = %d", x.n, h.Len())
		}
		for at := range x.want {
			if h.Has(at) || h.Score(at) != 0 {
				t.Fatalf("P14.1: New(%d): Has(%d) = %v, Score %d", x.n, at, h.Has(at), h.Score(at))
			}
		}
		if first, is := h.Pop(); first != 0 || is {
			t.Errorf("P14.1: New(%d).Pop() = %d, %v", x.n, first, is)
		}
		if got := count(h); got != x.want || h.Len() != x.want {
			t.Errorf("P14.1: New(%d) has %d numbers, Len %d, want %d", x.n, got, h.Len(), x.want)
		}
	}
}

func TestPush(t *testing.T) {
	h := heap.New(3)
	for _, x := range []struct {
		x    int
		want bool
		n    int
	}{
		{1, true, 1}, {1, false, 1},
		// No such number.
		{3, false, 1}, {4, false, 1}, {-1, false, 1}, {least, false, 1}, {greatest, false, 1}, {api.MaxVars, false, 1},
		{0, true, 2}, {0, false, 2}, {1, false, 2}, {2, true, 3}, {2, false, 3}, {1, false, 3}, {0, false, 3},
	} {
		if got := h.Push(x.x); got != x.want || h.Len() != x.n {
			t.Errorf("P14.1: Push(%d) = %v, Len %d, want %v, %d", x.x, got, h.Len(), x.want, x.n)
		}
	}
	if got := popped(h); !slices.Equal(got, []int{0, 1, 2}) {
		t.Errorf("P14.1: popped %v of 0, 1, 2", got)
	}
}

// TestPushAgain: what is out can be put in again.
func TestPushAgain(t *testing.T) {
	h := of(t, 4, 2, 3)
	h.Raise(3, 1)
	for range 3 {
		if x, is := h.Pop(); x != 3 || !is {
			t.Fatalf("P14.1: Pop() = %d, %v, want 3", x, is)
		}
		if h.Has(3) || !h.Has(2) || h.Len() != 1 {
			t.Fatalf("P14.1: after Pop: Has(3) = %v, Has(2) = %v, Len %d", h.Has(3), h.Has(2), h.Len())
		}
		if !h.Push(3) || h.Push(3) || !h.Has(3) || h.Len() != 2 {
			t.Fatalf("P14.1: Push(3) again: Has %v, Len %d", h.Has(3), h.Len())
		}
	}
	if h.Score(3) != 1 {
		t.Errorf("P14.1: Score(3) = %d, want 1", h.Score(3))
	}
}

func TestPop(t *testing.T) {
	for _, x := range []struct {
		name   string
		scores []int
		in     []int
		want   []int
	}{
		{"none", []int{0, 0, 0}, nil, nil}, {"of no numbers", nil, nil, nil},
		{"one", []int{0, 0, 0}, []int{2}, []int{2}}, {"number 0 alone", []int{7}, []int{0}, []int{0}},
		{"the chapter's", []int{0, 0, 1}, []int{1, 2}, []int{2, 1}},
		{"alike scores: the least", []int{0, 0, 0, 0, 0}, []int{3, 1, 4, 0, 2}, []int{0, 1, 2, 3, 4}},
		{"alike scores above 0", []int{5, 5, 5, 5, 5}, []int{4, 3, 2, 1, 0}, []int{0, 1, 2, 3, 4}},
		{"rising", []int{0, 1, 2, 3, 4, 5, 6}, []int{0, 1, 2, 3, 4, 5, 6}, []int{6, 5, 4, 3, 2, 1, 0}},
		{"falling", []int{6, 5, 4, 3, 2, 1, 0}, []int{0, 1, 2, 3, 4, 5, 6}, []int{0, 1, 2, 3, 4, 5, 6}},
		{"two and two", []int{3, 9, 3, 9, 3, 9}, []int{5, 4, 3, 2, 1, 0}, []int{1, 3, 5, 0, 2, 4}},
		{"the greatest is not in", []int{0, 9, 4, 9}, []int{2, 0}, []int{2, 0}},
		{"close at the greatest score", []int{mostScore - 1, mostScore, mostScore - 1, mostScore}, []int{0, 1, 2, 3}, []int{1, 3, 0, 2}},
	} {
		// Scores may be there ahead of the pushes, or come behind them.
		early, late := heap.New(len(x.scores)), heap.New(len(x.scores))
		for at, score := range x.scores {
			raised(early, at, score)
		}
		for _, at := range x.in {
			if !early.Push(at) || !late.Push(at) {
				t.Fatalf("P14.1: %s: Push(%d) = false", x.name, at)
			}
		}
		for at, score := range x.scores {
			raised(late, at, score)
		}
		for _, h := range []*heap.Heap{early, late} {
			if got := popped(h); !slices.Equal(got, x.want) {
				t.Errorf("P14.1: %s: popped %v, want %v", x.name, got, x.want)
			}
			if first, is := h.Pop(); first != 0 || is || h.Len() != 0 {
				t.Errorf("P14.1: %s: Pop of none = %d, %v, Len %d", x.name, first, is, h.Len())
			}
			for at, score := range x.scores {
				if h.Score(at) != score || h.Has(at) {
					t.Errorf("P14.1: %s: Score(%d) = %d, Has %v, want %d, false", x.name, at, h.Score(at), h.Has(at), score)
				}
			}
		}
	}
}

func TestRaise(t *testing.T) {
	for _, x := range []struct {
		name string
		by   []int
		want int
	}{
		{"nothing told", nil, 0}, {"by 0", []int{0}, 0}, {"by 1", []int{1}, 1}, {"one by one", []int{1, 2, 3}, 6}, {"by 0 of more", []int{4, 0}, 4},
		{"below 0", []int{-1}, 0}, {"below 0 of more", []int{5, -1}, 5}, {"back again", []int{5, -5}, 5}, {"the least", []int{5, least}, 5}, {"close to the least", []int{5, least + 1}, 5},
		{"close to the most at once", []int{mostRaise - 1}, mostRaise - 1}, {"the most at once", []int{mostRaise}, mostRaise}, {"one more", []int{mostRaise + 1}, 0}, {"one more than the most, of more", []int{7, mostRaise + 1, 2}, 9},
		{"2^50 at once", []int{mostScore}, 0}, {"the greatest", []int{3, greatest}, 3}, {"the greatest below 0", []int{3, -greatest}, 3},
		{"up to the most", slices.Repeat([]int{mostRaise}, 1024), mostScore},
		{"one raise too many", slices.Repeat([]int{mostRaise}, 1025), mostScore},
		{"1 above the most", append(slices.Repeat([]int{mostRaise}, 1024), 1), mostScore},
		{"0 at the most", append(slices.Repeat([]int{mostRaise}, 1024), 0), mostScore},
		{"1 below the most", append(slices.Repeat([]int{mostRaise}, 1023), mostRaise-1), mostScore - 1},
		{"1 below, and 1", append(slices.Repeat([]int{mostRaise}, 1023), mostRaise-1, 1), mostScore},
		{"1 below, and 2", append(slices.Repeat([]int{mostRaise}, 1023), mostRaise-1, 2), mostScore - 1},
		{"1 below, 2, and 1", append(slices.Repeat([]int{mostRaise}, 1023), mostRaise-1, 2, 1), mostScore},
		{"too much, and then less", append(slices.Repeat([]int{mostRaise}, 1023), 10, mostRaise, mostRaise-9, mostRaise-10), mostScore},
	} {
		in, out := of(t, 3, 1), of(t, 3, 0, 2)
		for _, by := range x.by {
			in.Raise(1, by)
			out.Raise(1, by)
		}
		if in.Score(1) != x.want || out.Score(1) != x.want {
			t.Errorf("P14.1: %s: Score = %d in it, %d out of it, want %d", x.name, in.Score(1), out.Score(1), x.want)
		}
		if !in.Has(1) || in.Len() != 1 || out.Has(1) || out.Len() != 2 {
			t.Errorf("P14.1: %s: Raise put one in, or out", x.name)
		}
		if in.Score(0) != 0 || in.Score(2) != 0 || out.Score(0) != 0 || out.Score(2) != 0 {
			t.Errorf("P14.1: %s: Raise changed other scores", x.name)
		}
	}
}

// TestRaiseOfNone: a raise of no such number changes nothing.
func TestRaiseOfNone(t *testing.T) {
	h := of(t, 3, 0, 1, 2)
	h.Raise(1, 2)
	for _, x := range []int{-1, 3, 4, api.MaxVars, least, greatest} {
		for _, by := range []int{-1, 0, 1, mostRaise, mostRaise + 1, least, greatest} {
			h.Raise(x, by)
			if h.Score(x) != 0 || h.Has(x) {
				t.Errorf("P14.1: Raise(%d, %d): Score %d, Has %v", x, by, h.Score(x), h.Has(x))
			}
		}
	}
	if h.Score(0) != 0 || h.Score(1) != 2 || h.Score(2) != 0 || h.Len() != 3 {
		t.Errorf("P14.1: scores %d, %d, %d, Len %d, want 0, 2, 0, 3", h.Score(0), h.Score(1), h.Score(2), h.Len())
	}
	h.Grow(api.MaxVars)
	for _, x := range []int{3, 4} {
		if h.Score(x) != 0 || h.Has(x) {
			t.Errorf("P14.1: %d came by Grow with Score %d, Has %v", x, h.Score(x), h.Has(x))
		}
	}
	if got := popped(h); !slices.Equal(got, []int{1, 0, 2}) {
		t.Errorf("P14.1: popped %v, want 1, 0, 2", got)
	}
}

// TestRaiseMoves: what is raised while it is in comes out at its new score, each time that it goes ahead.
func TestRaiseMoves(t *testing.T) {
	h := of(t, 8, 0, 1, 2, 3, 4, 5, 6, 7)
	h.Raise(6, 2)
	h.Raise(7, 1)
	h.Raise(5, 1)
	h.Raise(7, 1)
	h.Raise(3, mostRaise+1)
	h.Raise(4, -1)
	if got := popped(h); !slices.Equal(got, []int{6, 7, 5, 0, 1, 2, 3, 4}) {
		t.Errorf("P14.1: popped %v, want 6, 7, 5, 0, 1, 2, 3, 4", got)
	}
}

func TestHas(t *testing.T) {
	h := of(t, 4, 0, 3)
	for _, x := range []struct {
		x    int
		want bool
	}{{0, true}, {1, false}, {2, false}, {3, true}, {4, false}, {-1, false}, {least, false}, {greatest, false}, {api.MaxVars, false}} {
		if got := h.Has(x.x); got != x.want {
			t.Errorf("P14.1: Has(%d) = %v, want %v", x.x, got, x.want)
		}
		if got := h.Score(x.x); got != 0 {
			t.Errorf("P14.1: Score(%d) = %d, want 0", x.x, got)
		}
	}
}

func TestGrow(t *testing.T) {
	const most = api.MaxVars
	for _, x := range []struct {
		n    int
		more []int
		want int
	}{
		{0, nil, 0}, {0, []int{3}, 3}, {3, []int{2}, 5}, {3, []int{0}, 3}, {2, []int{1, 1, 1}, 5}, {-5, []int{2}, 2}, {least, []int{2}, 2},
		// Below 0: none.
		{3, []int{-1}, 3}, {3, []int{-3}, 3}, {3, []int{-4, 1}, 4}, {3, []int{least, 1}, 4}, {0, []int{-1}, 0},
		// At most MaxVars in all.
		{0, []int{most - 1}, most - 1}, {0, []int{most}, most}, {0, []int{most + 1}, most}, {0, []int{greatest}, most}, {3, []int{most - 3}, most}, {3, []int{most - 2}, most}, {3, []int{most}, most}, {3, []int{greatest}, most}, {3, []int{greatest - 2}, most},
		{most, []int{1}, most}, {most, []int{0}, most}, {most, []int{-1}, most}, {most, []int{greatest}, most}, {most - 1, []int{1}, most}, {most - 1, []int{2}, most}, {most - 1, []int{1, 1}, most}, {greatest, []int{1, -1, greatest}, most},
	} {
		h := heap.New(x.n)
		for _, more := range x.more {
			h.Grow(more)
		}
		if h.Len() != 0 {
			t.Errorf("P14.1: New(%d), Grow %v: Len %d", x.n, x.more, h.Len())
		}
		if got := count(h); got != x.want || h.Len() != x.want {
			t.Errorf("P14.1: New(%d), Grow %v: %d numbers, Len %d, want %d", x.n, x.more, got, h.Len(), x.want)
		}
	}
}

// TestCameLater: numbers that came later are as the others, and nothing of those changes.
func TestCameLater(t *testing.T) {
	h := of(t, 3, 2, 0)
	h.Raise(0, 1)
	h.Raise(1, 6)
	if h.Push(3) || h.Has(3) {
		t.Error("P14.1: Push(3) of 3 numbers")
	}
	h.Raise(3, 9)
	h.Grow(2)
	for x, want := range []int{1, 6, 0, 0, 0, 0} {
		if got := h.Score(x); got != want {
			t.Errorf("P14.1: Score(%d) = %d after Grow, want %d", x, got, want)
		}
	}
	for x, want := range []bool{true, false, true, false, false, false} {
		if got := h.Has(x); got != want {
			t.Errorf("P14.1: Has(%d) = %v after Grow, want %v", x, got, want)
		}
	}
	if h.Len() != 2 || !h.Push(4) || h.Push(4) || !h.Push(3) || h.Push(5) || h.Len() != 4 {
		t.Errorf("P14.1: Push of what came by Grow: Len %d", h.Len())
	}
	h.Raise(4, 2)
	if got := popped(h); !slices.Equal(got, []int{4, 0, 2, 3}) {
		t.Errorf("P14.1: popped %v, want 4, 0, 2, 3", got)
	}
}

// TestNobodyMade: nothing is put in, raised or grown, and nothing comes out; a heap of no numbers that was made can grow.
func TestNobodyMade(t *testing.T) {
	var zero heap.Heap
	for name, h := range map[string]*heap.Heap{"nil": nil, "no call's": {}, "a variable": &zero} {
		for range 2 {
			for _, x := range []int{0, 1, -1, 2, least, greatest} {
				h.Raise(x, 1)
				if h.Push(x) || h.Has(x) || h.Score(x) != 0 || h.Len() != 0 {
					t.Errorf("P14.1: %s, %d: Push, Has %v, Score %d, Len %d", name, x, h.Has(x), h.Score(x), h.Len())
				}
			}
			if x, is := h.Pop(); x != 0 || is {
				t.Errorf("P14.1: %s: Pop() = %d, %v", name, x, is)
			}
			for _, n := range []int{3, 0, -1, least, greatest} {
				h.Grow(n)
			}
		}
	}
	if zero != (heap.Heap{}) {
		t.Error("P14.1: something is kept in a heap that nobody made")
	}
	made := heap.New(0)
	made.Grow(1)
	if !made.Push(0) {
		t.Error("P14.1: a heap of no numbers didn't grow")
	}
}

// TestCopied: a copy is an object that no call made; it neither panics nor lets the first one fall apart.
func TestCopied(t *testing.T) {
	h := of(t, 9, 1, 2, 3)
	same := *h
	same.Grow(5)
	for x := range 9 {
		same.Push(x)
		same.Raise(x, 9-x)
		h.Push(8 - x)
		h.Raise(8-x, x)
	}
	for range 4 {
		same.Pop()
		h.Pop()
	}
	for x := range 16 {
		same.Raise(x, 16-x)
		h.Raise(x, 1)
		same.Push(x)
		h.Push(x)
	}
	list := append(popped(h), popped(&same)...)
	slices.Sort(list)
	if n := len(slices.Compact(list)); n < 9 || list[0] != 0 {
		t.Errorf("P14.1: %d numbers came out of a heap and its copy: %v", n, list)
	}
}
