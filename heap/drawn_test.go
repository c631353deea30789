package heap_test

import (
	"slices"
	"sync"
	"testing"

	"interlock/api"
	"interlock/heap"
)

// chance makes numbers, one after the other, always the same ones.
type chance uint64

func (r *chance) below(n int) int {
	*r = *r*6364136223846793005 + 1442695040888963407
	return int(uint64(*r)>>33) % n
}

// plain is a heap as plain lists: each number's score, and whether it is in.
type plain struct {
	scores []int
	in     []bool
}

func (p *plain) grow(n int) {
	for range min(n, api.MaxVars-len(p.scores)) {
		p.scores, p.in = append(p.scores, 0), append(p.in, false)
	}
}

func (p *plain) knows(x int) bool { return x >= 0 && x < len(p.in) }

func (p *plain) push(x int) bool {
	if !p.knows(x) || p.in[x] {
		return false
	}
	p.in[x] = true
	return true
}

func (p *plain) pop() (int, bool) {
	best := -1
	for x, in := range p.in {
		if in && (best < 0 || p.scores[x] > p.scores[best]) {
			best = x
		}
	}
	if best < 0 {
		return 0, false
	}
	p.in[best] = false
	return best, true
}

func (p *plain) raise(x, by int) {
	if p.knows(x) && by >= 0 && by <= mostRaise && p.scores[x]+by <= mostScore {
		p.scores[x] += by
	}
}

func (p *plain) len() int {
	n := 0
	for _, in := range p.in {
		if in {
			n++
		}
	}
	return n
}

// by draws by how much a score is raised: mostly by little, so that many are alike, now and then by as much as it may, or as it may not.
func (r *chance) by() int {
	switch r.below(12) {
	case 0:
		return mostRaise - r.below(3)
	case 1:
		return []int{-1, mostRaise + 1, least, greatest, mostScore}[r.below(5)]
	}
	return r.below(4)
}

// step does one drawn thing to both, and tells whether both answered the same.
func (r *chance) step(h *heap.Heap, p *plain) bool {
	x := r.below(len(p.in)+3) - 1
	switch r.below(12) {
	case 0:
		n := r.below(4) - 2
		h.Grow(n)
		p.grow(n)
	case 1, 2, 3:
		got, is := h.Pop()
		want, wantIs := p.pop()
		return got == want && is == wantIs
	case 4, 5, 6:
		by := r.by()
		h.Raise(x, by)
		p.raise(x, by)
	default:
		return h.Push(x) == p.push(x)
	}
	return true
}

// alike tells whether both have the same scores, and the same in them.
func alike(h *heap.Heap, p *plain) bool {
	for x := -1; x <= len(p.in); x++ {
		if h.Has(x) != (p.knows(x) && p.in[x]) {
			return false
		}
		if p.knows(x) && h.Score(x) != p.scores[x] || !p.knows(x) && h.Score(x) != 0 {
			return false
		}
	}
	return h.Len() == p.len()
}

// TestIsAsPlainLists: what is told to a heap makes it what plain lists are of the same.
func TestIsAsPlainLists(t *testing.T) {
	for seed := range 300 {
		r := chance(seed)
		n := r.below(40) - 2
		h, p := heap.New(n), &plain{}
		p.grow(n)
		for at := range 300 {
			if !r.step(h, p) || !alike(h, p) {
				t.Fatalf("P14.1: seed %d: step %d is not as of plain lists", seed, at)
			}
		}
		for range p.len() + 1 {
			got, is := h.Pop()
			want, wantIs := p.pop()
			if got != want || is != wantIs || !alike(h, p) {
				t.Fatalf("P14.1: seed %d: Pop() = %d, %v, want %d, %v", seed, got, is, want, wantIs)
			}
		}
	}
}

// TestAtTheMost: scores that are near to the most they may be come out in their order, all ways that they get there.
func TestAtTheMost(t *testing.T) {
	r := chance(5)
	for range 20 {
		h, p := heap.New(12), &plain{}
		p.grow(12)
		for range 12 * 1024 {
			x := r.below(12)
			by := mostRaise - r.below(2)*r.below(9)
			h.Raise(x, by)
			p.raise(x, by)
			if r.below(100) == 0 && h.Push(x) != p.push(x) {
				t.Fatal("P14.1: Push is not as of plain lists")
			}
		}
		for !slices.Equal(p.in, make([]bool, 12)) {
			got, is := h.Pop()
			want, _ := p.pop()
			if got != want || !is || !alike(h, p) {
				t.Fatalf("P14.1: Pop() = %d, %v, want %d", got, is, want)
			}
		}
	}
}

// TestTheGreatest: all numbers that may be, half of them there from the beginning, are in, raised and out again in their order.
func TestTheGreatest(t *testing.T) {
	h := heap.New(api.MaxVars / 2)
	h.Grow(api.MaxVars)
	r := chance(9)
	order := make([]int, api.MaxVars)
	scores := make([]int, api.MaxVars)
	for x := range order {
		order[x] = x
		if !h.Push((x * 5) % api.MaxVars) {
			t.Fatalf("P14.1: Push(%d) = false", (x*5)%api.MaxVars)
		}
	}
	for range 2 * api.MaxVars {
		x, by := r.below(api.MaxVars), r.below(5)
		h.Raise(x, by)
		scores[x] += by
	}
	slices.SortStableFunc(order, func(a, b int) int { return scores[b] - scores[a] })
	if h.Len() != api.MaxVars {
		t.Errorf("P14.1: Len() = %d, want %d", h.Len(), api.MaxVars)
	}
	if !slices.Equal(popped(h), order) || h.Len() != 0 {
		t.Error("P14.1: all numbers are not popped in their order")
	}
}

// TestMemory: heaps share nothing with one another, those that were made by the same calls among them.
func TestMemory(t *testing.T) {
	a, b := heap.New(5), heap.New(5)
	a.Push(1)
	a.Push(3)
	a.Raise(3, 4)
	if b.Len() != 0 || b.Has(1) || b.Has(3) || b.Score(3) != 0 {
		t.Error("P14.2: one heap's numbers are another's")
	}
	b.Push(3)
	b.Push(1)
	b.Push(0)
	b.Raise(0, 1)
	a.Grow(3)
	if a.Score(0) != 0 || a.Len() != 2 || a.Has(0) || b.Push(5) {
		t.Error("P14.2: one heap's scores are another's")
	}
	if got := popped(b); !slices.Equal(got, []int{0, 1, 3}) {
		t.Errorf("P14.2: popped %v, want 0, 1, 3", got)
	}
	if got := popped(a); !slices.Equal(got, []int{3, 1}) {
		t.Errorf("P14.2: popped %v, want 3, 1", got)
	}
	if popped(nil) != nil || popped(&heap.Heap{}) != nil {
		t.Error("P14.2: numbers come out of heaps that nobody made")
	}
}

// TestAtOneTime: heaps of several goroutines do as each of them would alone, and those that nobody made among them.
func TestAtOneTime(t *testing.T) {
	var wait sync.WaitGroup
	var nobody heap.Heap
	for seed := range 8 {
		wait.Go(func() {
			r := chance(seed / 2)
			h, p := heap.New(20), &plain{}
			p.grow(20)
			for at := range 500 {
				if !r.step(h, p) || !alike(h, p) {
					t.Errorf("P14.1, P14.2: seed %d: step %d is not as of plain lists", seed, at)
					return
				}
				nobody.Grow(1)
				nobody.Raise(0, 1)
				if _, is := nobody.Pop(); is || nobody.Push(0) || nobody.Has(0) || nobody.Len()+nobody.Score(0) != 0 {
					t.Error("P14.2: something is kept in a heap that nobody made")
				}
			}
		})
	}
	wait.Wait()
}
