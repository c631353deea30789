package unroll_test

import (
	"math"
	"slices"
	"testing"

	"interlock/api"
	"interlock/circuit"
	"interlock/unroll"
)

const (
	least    = math.MinInt
	greatest = math.MaxInt
	// lastLit is the greatest literal that circuits have.
	lastLit = 2*api.MaxVar + 1
)

// same tells whether clauses are the same ones, literal by literal.
func same(a, b [][]int) bool {
	return slices.EqualFunc(a, b, slices.Equal[[]int])
}

// sample is a circuit with something of everything; its latches stand in another order than their variables, and variables 0, 4 and 7 are nothing.
func sample() api.Circuit {
	return api.Circuit{
		Max:     7,
		Inputs:  []int{6},
		Latches: []api.Latch{{Lit: 10, Next: 13, Reset: 1}, {Lit: 4, Next: 6}, {Lit: 2, Next: 0, Reset: 2}},
		Outputs: []int{2, 0},
		Bads:    []int{13, 4, 1},
		Invars:  []int{5, 13},
		Ands:    []api.And{{Lit: 12, Left: 10, Right: 7}},
		Names:   []api.Name{{Kind: "l", At: 2, Text: "held"}},
	}
}

// latched is a circuit of latches alone, each of which stays what it is, with those Resets.
func latched(resets ...int) api.Circuit {
	c := api.Circuit{Max: len(resets), Bads: []int{0}}
	for at, reset := range resets {
		c.Latches = append(c.Latches, api.Latch{Lit: 2*at + 2, Next: 2*at + 2, Reset: reset})
	}
	return c
}

// mayNot are circuits that may not be.
func mayNot() []api.Circuit {
	list := []api.Circuit{
		{Max: -1}, {Max: least}, {Max: api.MaxVar + 1}, {Max: greatest}, {Max: -1, Inputs: []int{2}},
		{Max: 1, Inputs: []int{4}}, {Max: 1, Inputs: []int{3}}, {Max: 2, Inputs: []int{2, 2}}, {Max: 1, Inputs: []int{2}, Latches: []api.Latch{{Lit: 2}}}, {Max: 99, Inputs: slices.Repeat([]int{2}, api.MaxPins+1)},
		{Max: 1, Latches: []api.Latch{{Lit: 2, Next: 4}}}, {Max: 1, Latches: []api.Latch{{Lit: 2, Reset: 2, Next: -1}}}, {Max: 1, Latches: []api.Latch{{Lit: 2, Reset: 3}}}, {Max: 1, Latches: []api.Latch{{Lit: 2, Reset: -1}}}, {Max: 1, Latches: []api.Latch{{Lit: 3}}}, {Max: 1, Latches: []api.Latch{{Lit: least}}}, {Max: 1, Latches: []api.Latch{{Lit: greatest}}}, {Max: greatest, Latches: []api.Latch{{Lit: greatest - 1, Next: least, Reset: 1}}},
		{Max: 2, Inputs: []int{2}, Ands: []api.And{{Lit: 4, Left: 4, Right: 2}}}, {Max: 1, Ands: []api.And{{Lit: least, Left: greatest, Right: least}}},
		{Outputs: []int{2}}, {Bads: []int{-1}}, {Invars: []int{2}}, {Invars: []int{greatest}}, {Bads: slices.Repeat([]int{1}, api.MaxPins+1)}, {Names: []api.Name{{Kind: "i", Text: "x"}}}, {Names: []api.Name{{}}},
	}
	odd := sample()
	odd.Latches[2].Next = 14
	return append(list, odd)
}

// noFrames are numbers of no frame.
func noFrames() []int {
	return []int{least, least + 1, -api.MaxFrames, -2, -1, api.MaxFrames + 1, api.MaxFrames + 2, 2 * api.MaxFrames, 1 << 40, greatest - 1, greatest}
}

func TestBaseAndVars(t *testing.T) {
	for _, x := range []struct {
		c            api.Circuit
		frames, want int
	}{
		{api.Circuit{Max: 3}, 2, 8}, {api.Circuit{Max: 3}, 0, 0}, {api.Circuit{Max: 3}, 1, 4}, {api.Circuit{Max: 3}, 3, 12},
		// One more than Max, also where variable 0 is the only one.
		{api.Circuit{}, 0, 0}, {api.Circuit{}, 1, 1}, {api.Circuit{}, 7, 7}, {api.Circuit{}, api.MaxFrames, api.MaxFrames},
		{sample(), 0, 0}, {sample(), 1, 8}, {sample(), 5, 40}, {sample(), api.MaxFrames - 1, 8 * (api.MaxFrames - 1)}, {sample(), api.MaxFrames, 8 * api.MaxFrames},
		{api.Circuit{Max: api.MaxVar}, 1, api.MaxVar + 1}, {api.Circuit{Max: api.MaxVar}, api.MaxFrames, api.MaxFrames * (api.MaxVar + 1)}, {full(), api.MaxFrames, api.MaxFrames * (api.MaxVar + 1)},
	} {
		if got := unroll.Base(x.c, x.frames); got != x.want {
			t.Errorf("P13.1: Base(%v, %d) = %d, want %d", x.c, x.frames, got, x.want)
		}
		if got := unroll.Vars(x.c, x.frames); got != x.want {
			t.Errorf("P13.1: Vars(%v, %d) = %d, want %d", x.c, x.frames, got, x.want)
		}
	}
}

func TestLatch(t *testing.T) {
	for _, x := range []struct {
		c              api.Circuit
		frame, l, want int
	}{
		// By their place among the latches, not by their variables.
		{sample(), 0, 1, 6}, {sample(), 0, 2, 3}, {sample(), 0, 3, 2}, {sample(), 0, -1, -6}, {sample(), 0, -2, -3}, {sample(), 0, -3, -2},
		{sample(), 1, 1, 14}, {sample(), 1, -2, -11}, {sample(), 2, 3, 18}, {sample(), api.MaxFrames, 1, 8*api.MaxFrames + 6}, {sample(), api.MaxFrames, -1, -8*api.MaxFrames - 6},
		// No latch.
		{sample(), 0, 0, 0}, {sample(), 3, 0, 0}, {sample(), 0, 4, 0}, {sample(), 0, -4, 0}, {sample(), 1, 5, 0}, {sample(), 1, 10, 0}, {sample(), 1, greatest, 0}, {sample(), 1, least, 0}, {sample(), 1, least + 1, 0}, {sample(), api.MaxFrames, 4, 0},
		{api.Circuit{}, 0, 1, 0}, {api.Circuit{}, 0, -1, 0}, {api.Circuit{}, 0, 0, 0}, {api.Circuit{Max: 2, Inputs: []int{2, 4}}, 1, 1, 0}, {api.Circuit{Max: 2, Inputs: []int{2, 4}}, 1, least, 0},
		// One latch, and as many as there may be.
		{latched(0), 4, 1, 10}, {latched(0), 4, -1, -10}, {latched(0), 4, 2, 0}, {full(), 0, api.MaxPins, 129}, {full(), 0, -api.MaxPins, -129}, {full(), 0, api.MaxPins + 1, 0}, {full(), 0, -api.MaxPins - 1, 0}, {full(), api.MaxFrames, api.MaxPins, api.MaxFrames*(api.MaxVar+1) + 129},
	} {
		if got := unroll.Latch(x.c, x.frame, x.l); got != x.want {
			t.Errorf("P13.1: Latch(%v, %d, %d) = %d, want %d", x.c, x.frame, x.l, got, x.want)
		}
	}
}

func TestFirst(t *testing.T) {
	for _, x := range []struct {
		c    api.Circuit
		want [][]int
	}{
		{api.Circuit{}, nil}, {api.Circuit{Max: 2, Inputs: []int{2, 4}, Invars: []int{3}}, nil},
		{latched(0), [][]int{{-2}}}, {latched(1), [][]int{{2}}}, {latched(2), nil}, {latched(2, 4, 6), nil}, {latched(0, 1, 0), [][]int{{-2}, {3}, {-4}}}, {latched(2, 1, 6, 0), [][]int{{3}, {-5}}}, {latched(1, 1), [][]int{{2}, {3}}},
		// In the latches' order.
		{sample(), [][]int{{6}, {-3}}},
	} {
		if got := unroll.First(x.c); !same(got, x.want) {
			t.Errorf("P13.1: First(%v) = %d, want %d", x.c, got, x.want)
		}
	}
}

func TestFrame(t *testing.T) {
	all := api.Question{Circuit: sample(), Assume: [][]int{{7, 2}, {0}}, Lemmas: [][]int{{4}, {}, {13, 4, 13}}, Known: [][]int{{-1, 3}, {2}, nil}}
	for _, x := range []struct {
		q     api.Question
		frame int
		want  [][]int
	}{
		{api.Question{}, 0, [][]int{{-1}}}, {api.Question{}, 1, [][]int{{-2}}}, {api.Question{}, api.MaxFrames, [][]int{{-api.MaxFrames - 1}}}, {api.Question{Circuit: api.Circuit{Max: 1}}, 3, [][]int{{-7}, {-8}}},
		// First gates, then Invars, in each frame; First's clauses are not told.
		{api.Question{Circuit: sample()}, 0, [][]int{{-1}, {-5}, {-8}, {-7, 6}, {-7, -4}, {7, -6, 4}, {-3}, {-7}}},
		{api.Question{Circuit: sample()}, 2, [][]int{{-17}, {-21}, {-24}, {-23, 22}, {-23, -20}, {23, -22, 20}, {-19}, {-23}}},
		// Then Assume, Lemmas, Known, each in its order, as it is.
		{all, 1, [][]int{{-9}, {-13}, {-16}, {-15, 14}, {-15, -12}, {15, -14, 12}, {-11}, {-15}, {-12, 10}, {9}, {11}, {}, {-15, 11, -15}, {-14, 10}, {11}, {}}},
		{api.Question{Circuit: latched(0), Known: [][]int{{1}, {-1}, {1, -1, 1}}}, 0, [][]int{{-1}, {2}, {-2}, {2, -2, 2}}}, {api.Question{Circuit: latched(0), Lemmas: [][]int{{2}, {3, 1}}}, 0, [][]int{{-1}, {2}, {-2, -1}}}, {api.Question{Circuit: latched(0), Assume: [][]int{{3}, {3}}}, 5, [][]int{{-11}, {-12}, {-12}}},
		// Bad, Depth and Budget are not looked at, nor how many clauses there are.
		{api.Question{Circuit: latched(0), Bad: -1, Depth: -1, Budget: -1}, 0, [][]int{{-1}}}, {api.Question{Circuit: latched(0), Bad: 1, Depth: api.MaxFrames, Budget: api.MaxBudget + 1}, 0, [][]int{{-1}}},
		{api.Question{Circuit: latched(0), Assume: slices.Repeat([][]int{{2}}, 300), Lemmas: slices.Repeat([][]int{{3}}, 300), Known: slices.Repeat([][]int{{1}}, 300)}, 0, slices.Concat([][]int{{-1}}, slices.Repeat([][]int{{2}}, 300), slices.Repeat([][]int{{-2}}, 300), slices.Repeat([][]int{{2}}, 300))},
		// Clauses that may not be: of circuits' literals as with tseitin, of latches as with Latch.
		{api.Question{Circuit: latched(0), Assume: [][]int{{-1, 9}, {greatest, least}}, Lemmas: [][]int{{-5, lastLit + 1}}, Known: [][]int{{2, 1}, {0}, {least, greatest, -1}, {-2}}}, 1, [][]int{{-3}, {3, -7}, {-api.MaxVar - 3, 3}, {3, -api.MaxVar - 3}, {0, 4}, {0}, {0, 0, -4}, {0}}},
	} {
		if got := unroll.Frame(x.q, x.frame); !same(got, x.want) {
			t.Errorf("P13.1: Frame(%v, %d) = %d, want %d", x.q, x.frame, got, x.want)
		}
	}
}

// Of the greatest circuit the last frame ends ahead of MaxVars, or else it is nothing.
func TestFrameOfTheGreatest(t *testing.T) {
	c := full()
	q := api.Question{Circuit: c, Assume: slices.Repeat([][]int{{lastLit}}, api.MaxFacts), Lemmas: slices.Repeat([][]int{{4}}, api.MaxFacts), Known: slices.Repeat([][]int{slices.Repeat([]int{-2}, api.MaxClause)}, api.MaxKept)}
	if e := unroll.Check(q); e != api.OK {
		t.Fatalf("P13.1: Check of the greatest question = %d", e)
	}
	count := 1 + 3*len(c.Ands) + len(c.Invars) + 2*api.MaxFacts + api.MaxKept
	for frame := range api.MaxFrames + 1 {
		clauses := unroll.Frame(q, frame)
		last := (frame + 1) * (api.MaxVar + 1)
		if last > api.MaxVars {
			count = 0
		}
		if len(clauses) != count {
			t.Fatalf("P13.1: Frame %d of the greatest question has %d clauses, want %d", frame, len(clauses), count)
		}
		for _, l := range clauses {
			for _, n := range l {
				if v := max(n, -n); v <= last-api.MaxVar-1 || v > last {
					t.Fatalf("P13.1: Frame %d of the greatest question has literal %d", frame, n)
				}
			}
		}
	}
}

func TestLink(t *testing.T) {
	for _, x := range []struct {
		c     api.Circuit
		frame int
		want  [][]int
	}{
		{api.Circuit{}, 0, nil}, {api.Circuit{Max: 2, Inputs: []int{2}, Invars: []int{2}}, 1, nil}, {api.Circuit{}, api.MaxFrames, nil},
		{latched(0), 0, [][]int{{4, -2}, {-4, 2}}}, {latched(1), 3, [][]int{{10, -8}, {-10, 8}}},
		// In the latches' order; of a Next that is not, of an input, of an and, of 0 and 1.
		{sample(), 0, [][]int{{14, 7}, {-14, -7}, {11, -4}, {-11, 4}, {10, -1}, {-10, 1}}}, {sample(), 4, [][]int{{46, 39}, {-46, -39}, {43, -36}, {-43, 36}, {42, -33}, {-42, 33}}},
		{api.Circuit{Max: 1, Latches: []api.Latch{{Lit: 2, Next: 1}}}, 1, [][]int{{6, 3}, {-6, -3}}},
		// Behind the last frame there is a next one, too.
		{sample(), api.MaxFrames - 1, [][]int{{8*api.MaxFrames + 6, 8*api.MaxFrames - 1}, {-8*api.MaxFrames - 6, -8*api.MaxFrames + 1}, {8*api.MaxFrames + 3, -8*api.MaxFrames + 4}, {-8*api.MaxFrames - 3, 8*api.MaxFrames - 4}, {8*api.MaxFrames + 2, -8*api.MaxFrames + 7}, {-8*api.MaxFrames - 2, 8*api.MaxFrames - 7}}},
		{latched(0), api.MaxFrames, [][]int{{2*api.MaxFrames + 4, -2*api.MaxFrames - 2}, {-2*api.MaxFrames - 4, 2*api.MaxFrames + 2}}},
	} {
		if got := unroll.Link(x.c, x.frame); !same(got, x.want) {
			t.Errorf("P13.1: Link(%v, %d) = %d, want %d", x.c, x.frame, got, x.want)
		}
	}
}

func TestApart(t *testing.T) {
	for _, x := range []struct {
		c         api.Circuit
		a, b, aux int
		want      [][]int
	}{
		// No latches: none of them differs.
		{api.Circuit{}, 0, 1, 5, [][]int{{}}}, {api.Circuit{Max: 1, Inputs: []int{2}}, 2, 2, 0, [][]int{{}}},
		{latched(0), 0, 1, 4, [][]int{{-5, 2, 4}, {-5, -2, -4}, {5}}}, {latched(0), 1, 0, 4, [][]int{{-5, 4, 2}, {-5, -4, -2}, {5}}}, {latched(0), 3, 3, 100, [][]int{{-101, 8, 8}, {-101, -8, -8}, {101}}},
		// In the latches' order, whatever the frames' order and Reset.
		{sample(), 2, 0, 50, [][]int{{-51, 22, 6}, {-51, -22, -6}, {-52, 19, 3}, {-52, -19, -3}, {-53, 18, 2}, {-53, -18, -2}, {51, 52, 53}}}, {sample(), 0, 2, 24, [][]int{{-25, 6, 22}, {-25, -6, -22}, {-26, 3, 19}, {-26, -3, -19}, {-27, 2, 18}, {-27, -2, -18}, {25, 26, 27}}},
		// The last frames, and variables from 1 on and behind all others.
		{latched(0), 0, api.MaxFrames, 0, [][]int{{-1, 2, 2*api.MaxFrames + 2}, {-1, -2, -2*api.MaxFrames - 2}, {1}}}, {latched(0, 0), api.MaxFrames, 0, api.MaxVars - 2, [][]int{{-api.MaxVars + 1, 3*api.MaxFrames + 2, 2}, {-api.MaxVars + 1, -3*api.MaxFrames - 2, -2}, {-api.MaxVars, 3*api.MaxFrames + 3, 3}, {-api.MaxVars, -3*api.MaxFrames - 3, -3}, {api.MaxVars - 1, api.MaxVars}}},
	} {
		if got := unroll.Apart(x.c, x.a, x.b, x.aux); !same(got, x.want) {
			t.Errorf("P13.2: Apart(%v, %d, %d, %d) = %d, want %d", x.c, x.a, x.b, x.aux, got, x.want)
		}
	}
}

// Of as many latches as there may be, each has a variable of its own.
func TestApartOfTheGreatest(t *testing.T) {
	c := full()
	got, one := unroll.Apart(c, 79, 80, 200000), []int(nil)
	if len(got) != 2*api.MaxPins+1 {
		t.Fatalf("P13.2: Apart of the greatest circuit has %d clauses", len(got))
	}
	for at := range c.Latches {
		v, a, b := 200001+at, unroll.Latch(c, 79, at+1), unroll.Latch(c, 80, at+1)
		if !same(got[2*at:2*at+2], [][]int{{-v, a, b}, {-v, -a, -b}}) {
			t.Fatalf("P13.2: Apart of latch %d: %d", at+1, got[2*at:2*at+2])
		}
		one = append(one, v)
	}
	if !slices.Equal(got[2*api.MaxPins], one) {
		t.Errorf("P13.2: Apart: one of %d", got[2*api.MaxPins])
	}
}

// What aux is, is not bound: nothing panics.
func TestAnyAux(t *testing.T) {
	for _, aux := range []int{least, least + 1, -api.MaxVars, -2, -1, api.MaxVars, 1 << 40, greatest - 2, greatest - 1, greatest} {
		for _, c := range []api.Circuit{{}, latched(0), sample(), full()} {
			if got := unroll.Apart(c, 0, 1, aux); len(got) != 2*len(c.Latches)+1 {
				t.Errorf("P13.2: Apart(%v, 0, 1, %d) = %d", c, aux, got)
			}
		}
	}
}

// Of circuits that may not be, and of no frames, there is nothing, or 0.
func TestNothing(t *testing.T) {
	none := func(c api.Circuit, frame int) {
		t.Helper()
		q := api.Question{Circuit: c, Assume: [][]int{{1}}, Lemmas: [][]int{{1}}, Known: [][]int{{1}}}
		for name, got := range map[string]int{"Base": unroll.Base(c, frame), "Vars": unroll.Vars(c, frame), "Latch": unroll.Latch(c, frame, 1), "Latch, not": unroll.Latch(c, frame, -1)} {
			if got != 0 {
				t.Errorf("P13.1: %s of %v, frame %d: %d", name, c, frame, got)
			}
		}
		for name, got := range map[string][][]int{"Frame": unroll.Frame(q, frame), "Link": unroll.Link(c, frame), "Apart, a": unroll.Apart(c, frame, 1, 9), "Apart, b": unroll.Apart(c, 1, frame, 9), "Apart, both": unroll.Apart(c, frame, frame, 9)} {
			if got != nil {
				t.Errorf("P13.1: %s of %v, frame %d: %d", name, c, frame, got)
			}
		}
	}
	for _, c := range mayNot() {
		if circuit.Check(c) != api.ErrState {
			t.Fatalf("%v may be", c)
		}
		for _, frame := range append([]int{0, 1, 2, api.MaxFrames}, noFrames()...) {
			none(c, frame)
		}
		if got := unroll.First(c); got != nil {
			t.Errorf("P13.1: First(%v) = %d", c, got)
		}
	}
	for _, c := range []api.Circuit{{}, {Max: api.MaxVar}, latched(0), sample(), full()} {
		for _, frame := range noFrames() {
			none(c, frame)
		}
	}
}

// question is one of the sample that may be, with clauses of all kinds.
func question() api.Question {
	return api.Question{Circuit: sample(), Assume: [][]int{{15, 0}, {}, {8, 8, 9}}, Lemmas: [][]int{{1}, {14}}, Known: [][]int{{-3, 3, 1}, {}, {2, 2}}, Bad: 2, Depth: 4, Budget: 100}
}

// with is the question, changed.
func with(change func(q *api.Question)) api.Question {
	q := question()
	change(&q)
	return q
}

func TestCheck(t *testing.T) {
	many := func(n, l int) [][]int { return slices.Repeat([][]int{{l}}, n) }
	long := func(n, l int) [][]int { return [][]int{slices.Repeat([]int{l}, n)} }
	for _, x := range []struct {
		change func(q *api.Question)
		want   api.Errno
	}{
		{func(q *api.Question) {}, api.OK},
		{func(q *api.Question) { *q = api.Question{Circuit: api.Circuit{Bads: []int{0}}} }, api.OK}, {func(q *api.Question) { q.Assume, q.Lemmas, q.Known = nil, [][]int{}, nil }, api.OK},
		// Bad.
		{func(q *api.Question) { q.Bad = 0 }, api.OK}, {func(q *api.Question) { q.Bad = -1 }, api.ErrRange}, {func(q *api.Question) { q.Bad = 3 }, api.ErrRange}, {func(q *api.Question) { q.Bad = 4 }, api.ErrRange}, {func(q *api.Question) { q.Bad = least }, api.ErrRange}, {func(q *api.Question) { q.Bad = greatest }, api.ErrRange}, {func(q *api.Question) { q.Circuit.Bads, q.Bad = nil, 0 }, api.ErrRange}, {func(q *api.Question) { *q = api.Question{} }, api.ErrRange},
		{func(q *api.Question) { q.Circuit.Bads, q.Bad = slices.Repeat([]int{13}, api.MaxPins), api.MaxPins-1 }, api.OK}, {func(q *api.Question) { q.Circuit.Bads, q.Bad = slices.Repeat([]int{13}, api.MaxPins), api.MaxPins }, api.ErrRange},
		// Depth.
		{func(q *api.Question) { q.Depth = 0 }, api.OK}, {func(q *api.Question) { q.Depth = api.MaxFrames - 1 }, api.OK}, {func(q *api.Question) { q.Depth = api.MaxFrames }, api.ErrRange}, {func(q *api.Question) { q.Depth = -1 }, api.ErrRange}, {func(q *api.Question) { q.Depth = least }, api.ErrRange}, {func(q *api.Question) { q.Depth = greatest }, api.ErrRange},
		// Budget.
		{func(q *api.Question) { q.Budget = 0 }, api.OK}, {func(q *api.Question) { q.Budget = api.MaxBudget }, api.OK}, {func(q *api.Question) { q.Budget = api.MaxBudget + 1 }, api.ErrRange}, {func(q *api.Question) { q.Budget = -1 }, api.ErrRange}, {func(q *api.Question) { q.Budget = least }, api.ErrRange}, {func(q *api.Question) { q.Budget = greatest }, api.ErrRange},
		// How many clauses.
		{func(q *api.Question) { q.Assume = many(api.MaxFacts, 15) }, api.OK}, {func(q *api.Question) { q.Assume = many(api.MaxFacts+1, 15) }, api.ErrCount}, {func(q *api.Question) { q.Lemmas = many(api.MaxFacts, 15) }, api.OK}, {func(q *api.Question) { q.Lemmas = many(api.MaxFacts+1, 15) }, api.ErrCount}, {func(q *api.Question) { q.Known = many(api.MaxKept, -3) }, api.OK}, {func(q *api.Question) { q.Known = many(api.MaxKept+1, -3) }, api.ErrCount},
		{func(q *api.Question) {
			q.Assume, q.Lemmas, q.Known = many(api.MaxFacts, 0), many(api.MaxFacts, 0), many(api.MaxKept, 1)
		}, api.OK}, {func(q *api.Question) { q.Known = make([][]int, api.MaxKept+1) }, api.ErrCount}, {func(q *api.Question) { q.Assume = make([][]int, 1<<16) }, api.ErrCount},
		// Clauses of the circuit's literals, also of variables that are nothing.
		{func(q *api.Question) { q.Assume = [][]int{{2}, {16}} }, api.ErrKind}, {func(q *api.Question) { q.Assume = [][]int{{2, -1}} }, api.ErrKind}, {func(q *api.Question) { q.Assume = [][]int{{least}} }, api.ErrKind}, {func(q *api.Question) { q.Assume = [][]int{{greatest, 0}} }, api.ErrKind}, {func(q *api.Question) { q.Assume = long(api.MaxClause, 3) }, api.OK}, {func(q *api.Question) { q.Assume = long(api.MaxClause+1, 3) }, api.ErrKind},
		{func(q *api.Question) { q.Lemmas = [][]int{{2}, {16}} }, api.ErrKind}, {func(q *api.Question) { q.Lemmas = [][]int{{2, -1}} }, api.ErrKind}, {func(q *api.Question) { q.Lemmas = [][]int{{least}} }, api.ErrKind}, {func(q *api.Question) { q.Lemmas = [][]int{{greatest, 0}} }, api.ErrKind}, {func(q *api.Question) { q.Lemmas = long(api.MaxClause, 3) }, api.OK}, {func(q *api.Question) { q.Lemmas = long(api.MaxClause+1, 3) }, api.ErrKind},
		{func(q *api.Question) {
			q.Circuit.Max = api.MaxVar
			q.Assume, q.Lemmas = [][]int{{lastLit}}, [][]int{{lastLit - 1}}
		}, api.OK}, {func(q *api.Question) { q.Circuit.Max = api.MaxVar; q.Assume = [][]int{{lastLit + 1}} }, api.ErrKind},
		// Clauses over its latches.
		{func(q *api.Question) { q.Known = [][]int{{3}, {-3}} }, api.OK}, {func(q *api.Question) { q.Known = [][]int{{3}, {4}} }, api.ErrKind}, {func(q *api.Question) { q.Known = [][]int{{-4}} }, api.ErrKind}, {func(q *api.Question) { q.Known = [][]int{{1, 0}} }, api.ErrKind}, {func(q *api.Question) { q.Known = [][]int{{least}} }, api.ErrKind}, {func(q *api.Question) { q.Known = [][]int{{greatest}} }, api.ErrKind}, {func(q *api.Question) { q.Known = long(api.MaxClause, -2) }, api.OK}, {func(q *api.Question) { q.Known = long(api.MaxClause+1, -2) }, api.ErrKind},
		{func(q *api.Question) {
			*q = api.Question{Circuit: api.Circuit{Max: 1, Bads: []int{0}}, Known: [][]int{{}}}
		}, api.OK}, {func(q *api.Question) {
			*q = api.Question{Circuit: api.Circuit{Max: 1, Bads: []int{0}}, Known: [][]int{{1}}}
		}, api.ErrKind},
	} {
		q := with(x.change)
		if got := unroll.Check(q); got != x.want {
			t.Errorf("P13.1: Check(%v) = %d, want %d", q, got, x.want)
		}
	}
}

// Of several errors the first one in the chapter's order is told.
func TestOrderOfErrors(t *testing.T) {
	kinds := []func(q *api.Question){
		func(q *api.Question) { q.Assume = append(q.Assume, []int{-1}) }, func(q *api.Question) { q.Lemmas = append(q.Lemmas, []int{16}) }, func(q *api.Question) { q.Known = append(q.Known, []int{0}) },
	}
	counts := []func(q *api.Question){
		func(q *api.Question) { q.Assume = append(q.Assume, make([][]int, api.MaxFacts)...) }, func(q *api.Question) { q.Lemmas = append(q.Lemmas, make([][]int, api.MaxFacts)...) }, func(q *api.Question) { q.Known = append(q.Known, make([][]int, api.MaxKept)...) },
	}
	ranges := []func(q *api.Question){
		func(q *api.Question) { q.Bad = 3 }, func(q *api.Question) { q.Depth = api.MaxFrames }, func(q *api.Question) { q.Budget = -1 },
	}
	told := func(want api.Errno, changes ...func(q *api.Question)) {
		t.Helper()
		q := with(func(q *api.Question) {
			for _, change := range changes {
				change(q)
			}
		})
		if got := unroll.Check(q); got != want {
			t.Errorf("P13.1: Check(%v) = %d, want %d", q, got, want)
		}
	}
	for _, kind := range kinds {
		told(api.ErrKind, kind)
		for _, count := range counts {
			told(api.ErrCount, kind, count)
			for _, rangy := range ranges {
				told(api.ErrRange, kind, rangy)
				told(api.ErrRange, count, rangy)
				told(api.ErrRange, kind, count, rangy)
				told(api.ErrState, kind, count, rangy, func(q *api.Question) { q.Circuit.Max = 4 })
			}
		}
	}
	for _, c := range mayNot() {
		told(api.ErrState, func(q *api.Question) { q.Circuit = c })
		told(api.ErrState, func(q *api.Question) { *q = api.Question{Circuit: c, Bad: -1, Known: make([][]int, 999)} })
	}
}
