package sat

import "interlock/heap"

// By how much a score goes up at first, and at most, and by how many bits all scores are made smaller then.
const (
	leastStep = 1 << 10
	mostStep  = 1 << 40
	smaller   = 30
)

// order tells which variable is tried next: those ahead that had to do with the last conflicts. Its numbers are the variables; 0 is none of them, and never in it.
type order struct {
	*heap.Heap
	vars int
	step int
}

// newOrder is an order of no variables.
func newOrder() order {
	return order{Heap: heap.New(1), step: leastStep}
}

// widen puts n variables more in.
func (o *order) widen(n int) {
	o.Grow(n)
	for range n {
		o.vars++
		o.again(o.vars)
	}
}

// again puts a variable in, unless it is in.
func (o *order) again(v int) {
	o.Push(v)
}

// blame puts a variable further ahead.
func (o *order) blame(v int) {
	o.Raise(v, o.step)
}

// age makes what comes weigh more than what was: that is less work than to make all scores less.
func (o *order) age() {
	o.step += o.step >> 5
	if o.step > mostStep-mostStep>>5 {
		o.shrink()
	}
}

// shrink makes all scores smaller, in a heap of their own, as scores never go down in one.
func (o *order) shrink() {
	fresh := heap.New(o.vars + 1)
	for v := 1; v <= o.vars; v++ {
		fresh.Raise(v, o.Score(v)>>smaller)
		if o.Has(v) {
			fresh.Push(v)
		}
	}
	o.Heap = fresh
	o.step >>= smaller
}
