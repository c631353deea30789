package tseitin_test

import (
	"math"
	"slices"
	"testing"

	"interlock/api"
	"interlock/circuit"
	"interlock/tseitin"
)

const (
	least    = math.MinInt
	greatest = math.MaxInt
	// lastLit is the greatest literal that circuits have.
	lastLit = 2*api.MaxVar + 1
)

// same tells whether clauses are the same ones, literal by literal.
func same(a, b [][]int) bool {
	return slices.EqualFunc(a, b, slices.Equal[[]int])
}

func TestLit(t *testing.T) {
	for _, x := range []struct{ base, l, want int }{
		{10, 5, -13},
		// Variable 0 stands behind the base, and is not the base.
		{0, 0, 1}, {0, 1, -1}, {10, 0, 11}, {10, 1, -11}, {1, 0, 2}, {1, 1, -2},
		{0, 2, 2}, {0, 3, -2}, {0, 4, 3}, {0, 5, -3}, {10, 4, 13}, {7, 6, 11}, {7, 7, -11}, {2048, 1000, 2549}, {2048, 1001, -2549},
		// Below 0: as 0.
		{0, -1, 1}, {0, -2, 1}, {0, -3, 1}, {10, -1, 11}, {10, -5, 11}, {10, -4, 11}, {10, least, 11}, {10, least + 1, 11}, {0, -lastLit, 1},
		// The greatest literals, and those above them.
		{0, lastLit - 2, -api.MaxVar}, {0, lastLit - 1, api.MaxVar + 1}, {0, lastLit, -api.MaxVar - 1}, {10, lastLit - 1, api.MaxVar + 11}, {10, lastLit, -api.MaxVar - 11},
		{0, lastLit + 1, -api.MaxVar - 1}, {0, lastLit + 2, -api.MaxVar - 1}, {10, lastLit + 1, -api.MaxVar - 11}, {10, lastLit + 2, -api.MaxVar - 11}, {10, lastLit + 3, -api.MaxVar - 11}, {10, 1 << 41, -api.MaxVar - 11}, {10, greatest, -api.MaxVar - 11}, {10, greatest - 1, -api.MaxVar - 11},
		// The greatest bases.
		{api.MaxVars - 1, 0, api.MaxVars}, {api.MaxVars, 0, api.MaxVars + 1}, {api.MaxVars, 1, -api.MaxVars - 1}, {api.MaxVars, 5, -api.MaxVars - 3}, {api.MaxVars, lastLit - 1, api.MaxVars + api.MaxVar + 1}, {api.MaxVars, lastLit, -api.MaxVars - api.MaxVar - 1},
		// Another base: as 0.
		{-1, 0, 1}, {-1, 5, -3}, {-2, 4, 3}, {-10, 1, -1}, {least, 0, 1}, {least, 5, -3}, {-api.MaxVars, 4, 3},
		{api.MaxVars + 1, 0, 1}, {api.MaxVars + 1, 5, -3}, {api.MaxVars + 2, 4, 3}, {greatest, 0, 1}, {greatest, 1, -1}, {greatest, lastLit, -api.MaxVar - 1}, {1 << 62, 4, 3},
		// Both.
		{-1, -1, 1}, {least, least, 1}, {greatest, greatest, -api.MaxVar - 1}, {greatest, least, 1}, {least, greatest, -api.MaxVar - 1}, {api.MaxVars, greatest, -api.MaxVars - api.MaxVar - 1}, {api.MaxVars, least, api.MaxVars + 1},
	} {
		if got := tseitin.Lit(x.base, x.l); got != x.want {
			t.Errorf("P12.1: Lit(%d, %d) = %d, want %d", x.base, x.l, got, x.want)
		}
	}
}

// Each literal of each variable is one of its own, and opposites stay opposites.
func TestLitOfEach(t *testing.T) {
	for _, base := range []int{0, 1, 77, api.MaxVar + 1, api.MaxVars} {
		for v := range api.MaxVar + 1 {
			if is, not := tseitin.Lit(base, 2*v), tseitin.Lit(base, 2*v+1); is != base+v+1 || not != -is {
				t.Fatalf("P12.1: Lit of variable %d from %d: %d, %d", v, base, is, not)
			}
		}
	}
}

func TestClause(t *testing.T) {
	for _, x := range []struct {
		base    int
		l, want []int
	}{
		{0, nil, nil}, {10, []int{}, nil}, {-1, nil, nil}, {greatest, []int{}, nil},
		{10, []int{5}, []int{-13}}, {0, []int{0}, []int{1}}, {0, []int{1}, []int{-1}},
		// In their order, as often as they stand there.
		{0, []int{2, 5, 4}, []int{2, -3, 3}}, {10, []int{7, 2, 7, 2, 6}, []int{-14, 12, -14, 12, 14}}, {3, []int{9, 8, 1, 0}, []int{-8, 8, -4, 4}},
		// As with Lit at all edges.
		{10, []int{-1, 3, least, lastLit, greatest, lastLit + 1, -2}, []int{11, -12, 11, -api.MaxVar - 11, -api.MaxVar - 11, -api.MaxVar - 11, 11}}, {api.MaxVars, []int{0, lastLit}, []int{api.MaxVars + 1, -api.MaxVars - api.MaxVar - 1}},
		{-1, []int{5, 4}, []int{-3, 3}}, {api.MaxVars + 1, []int{5, 4}, []int{-3, 3}}, {least, []int{greatest, 2}, []int{-api.MaxVar - 1, 2}}, {greatest, []int{-7, 2}, []int{1, 2}},
	} {
		if got := tseitin.Clause(x.base, x.l); !slices.Equal(got, x.want) {
			t.Errorf("P12.1: Clause(%d, %d) = %d, want %d", x.base, x.l, got, x.want)
		}
	}
	long := slices.Repeat([]int{3, 4}, 1<<17)
	if got := tseitin.Clause(1, long); !slices.Equal(got, slices.Repeat([]int{-3, 4}, 1<<17)) {
		t.Errorf("P12.1: Clause of many = %d", len(got))
	}
}

// sample is a circuit with something of everything; variables 0, 3 and 9 are nothing.
func sample() api.Circuit {
	return api.Circuit{
		Max:     9,
		Inputs:  []int{4, 2},
		Latches: []api.Latch{{Lit: 10, Next: 15}, {Lit: 8, Next: 8, Reset: 8}, {Lit: 14, Next: 1, Reset: 1}},
		Outputs: []int{17, 2, 0},
		Bads:    []int{16, 1},
		Invars:  []int{5, 12, 1, 5},
		Ands:    []api.And{{Lit: 12, Left: 4, Right: 11}, {Lit: 16, Left: 13, Right: 13}},
		Names:   []api.Name{{Kind: "i", At: 0, Text: "request"}, {Kind: "c", At: 0, Text: "c1"}},
	}
}

// ands is a circuit of inputs 2 and 4 and those ands; each of its variables from 1 on is something.
func ands(list ...api.And) api.Circuit {
	return api.Circuit{Max: 2 + len(list), Inputs: []int{2, 4}, Ands: list}
}

func TestGates(t *testing.T) {
	for _, x := range []struct {
		c    api.Circuit
		base int
		want [][]int
	}{
		// Variable 0 is nothing in each circuit; others are, too, up to Max.
		{api.Circuit{}, 0, [][]int{{-1}}}, {api.Circuit{}, 10, [][]int{{-11}}}, {api.Circuit{}, api.MaxVars, [][]int{{-api.MaxVars - 1}}},
		{api.Circuit{Max: 3}, 0, [][]int{{-1}, {-2}, {-3}, {-4}}}, {api.Circuit{Max: 1, Outputs: []int{1}, Bads: []int{0}, Invars: []int{1, 0}}, 5, [][]int{{-6}, {-7}}},
		// Inputs and latches are something, and have no clauses, wherever they stand.
		{api.Circuit{Max: 1, Inputs: []int{2}}, 0, [][]int{{-1}}}, {api.Circuit{Max: 1, Latches: []api.Latch{{Lit: 2, Next: 3}}}, 0, [][]int{{-1}}}, {api.Circuit{Max: 3, Inputs: []int{4}}, 0, [][]int{{-1}, {-2}, {-4}}}, {api.Circuit{Max: 4, Inputs: []int{8}, Latches: []api.Latch{{Lit: 4, Next: 1, Reset: 1}}}, 20, [][]int{{-21}, {-22}, {-24}}},
		{api.Circuit{Max: 3, Inputs: []int{6, 2}, Latches: []api.Latch{{Lit: 4, Next: 4, Reset: 4}}}, 0, [][]int{{-1}}},
		// Ands, three clauses each, in their order; Left and Right as they stand.
		{ands(api.And{Lit: 6, Left: 2, Right: 4}), 0, [][]int{{-1}, {-4, 2}, {-4, 3}, {4, -2, -3}}}, {ands(api.And{Lit: 6, Left: 4, Right: 2}), 0, [][]int{{-1}, {-4, 3}, {-4, 2}, {4, -3, -2}}},
		{ands(api.And{Lit: 6, Left: 3, Right: 4}), 0, [][]int{{-1}, {-4, -2}, {-4, 3}, {4, 2, -3}}}, {ands(api.And{Lit: 6, Left: 2, Right: 5}), 0, [][]int{{-1}, {-4, 2}, {-4, -3}, {4, -2, 3}}}, {ands(api.And{Lit: 6, Left: 3, Right: 5}), 10, [][]int{{-11}, {-14, -12}, {-14, -13}, {14, 12, 13}}},
		{ands(api.And{Lit: 6, Left: 2, Right: 4}, api.And{Lit: 8, Left: 7, Right: 6}), 0, [][]int{{-1}, {-4, 2}, {-4, 3}, {4, -2, -3}, {-5, -4}, {-5, 4}, {5, 4, -4}}},
		// Of plain ones, too, nothing is left out.
		{ands(api.And{Lit: 6, Left: 0, Right: 1}), 0, [][]int{{-1}, {-4, 1}, {-4, -1}, {4, -1, 1}}}, {ands(api.And{Lit: 6, Left: 1, Right: 1}), 0, [][]int{{-1}, {-4, -1}, {-4, -1}, {4, 1, 1}}}, {ands(api.And{Lit: 6, Left: 2, Right: 2}), 0, [][]int{{-1}, {-4, 2}, {-4, 2}, {4, -2, -2}}}, {ands(api.And{Lit: 6, Left: 2, Right: 3}), 0, [][]int{{-1}, {-4, 2}, {-4, -2}, {4, -2, 2}}}, {ands(api.And{Lit: 6, Left: 2, Right: 4}, api.And{Lit: 8, Left: 2, Right: 4}), 0, [][]int{{-1}, {-4, 2}, {-4, 3}, {4, -2, -3}, {-5, 2}, {-5, 3}, {5, -2, -3}}},
		// Something of everything; neither Next, Reset, Outputs, Bads, Invars nor Names are told of.
		{sample(), 0, [][]int{{-1}, {-4}, {-10}, {-7, 3}, {-7, -6}, {7, -3, 6}, {-9, -7}, {-9, -7}, {9, 7, 7}}},
		{sample(), 10, [][]int{{-11}, {-14}, {-20}, {-17, 13}, {-17, -16}, {17, -13, 16}, {-19, -17}, {-19, -17}, {19, 17, 17}}},
		{sample(), 1, [][]int{{-2}, {-5}, {-11}, {-8, 4}, {-8, -7}, {8, -4, 7}, {-10, -8}, {-10, -8}, {10, 8, 8}}},
	} {
		if got, e := tseitin.Gates(x.c, x.base); !same(got, x.want) || e != api.OK {
			t.Errorf("P12.1: Gates(%v, %d) = %d, %d, want %d", x.c, x.base, got, e, x.want)
		}
	}
}

func TestForce(t *testing.T) {
	for _, x := range []struct {
		c      api.Circuit
		assume [][]int
		base   int
		want   [][]int
	}{
		// Nothing is asked.
		{api.Circuit{}, nil, 0, nil}, {api.Circuit{Max: 3}, [][]int{}, 10, nil}, {ands(api.And{Lit: 6, Left: 2, Right: 4}), nil, 0, nil}, {api.Circuit{Bads: []int{0}, Outputs: []int{0}}, nil, 0, nil},
		// Invars, one clause each, in their order, as often as they stand there.
		{api.Circuit{Invars: []int{1}}, nil, 0, [][]int{{-1}}}, {api.Circuit{Invars: []int{0}}, nil, 0, [][]int{{1}}}, {api.Circuit{Max: 2, Inputs: []int{2, 4}, Invars: []int{5, 2, 5, 4}}, nil, 10, [][]int{{-13}, {12}, {-13}, {13}}},
		{sample(), nil, 0, [][]int{{-3}, {7}, {-1}, {-3}}},
		// What is assumed, in its order, as it is.
		{api.Circuit{}, [][]int{{0, 1}}, 0, [][]int{{1, -1}}}, {sample(), [][]int{{4, 11}, {16}}, 0, [][]int{{-3}, {7}, {-1}, {-3}, {3, -6}, {9}}}, {sample(), [][]int{{17, 2, 17}, {17, 2, 17}, {3, 2}}, 10, [][]int{{-13}, {17}, {-11}, {-13}, {-19, 12, -19}, {-19, 12, -19}, {-12, 12}}},
		// An empty clause is one.
		{api.Circuit{}, [][]int{{}}, 0, [][]int{{}}}, {api.Circuit{}, [][]int{nil}, 0, [][]int{{}}}, {api.Circuit{Invars: []int{1}}, [][]int{nil, {2}, {}}, 3, [][]int{{-4}, {}, {5}, {}}},
		// Literals that the circuit has not, as with Lit.
		{api.Circuit{}, [][]int{{2, 9}, {lastLit - 1}, {lastLit}}, 0, [][]int{{2, -5}, {api.MaxVar + 1}, {-api.MaxVar - 1}}}, {api.Circuit{}, [][]int{{-1, 3}, {least}, {lastLit + 1, greatest}}, 10, [][]int{{11, -12}, {11}, {-api.MaxVar - 11, -api.MaxVar - 11}}},
		// From the greatest base.
		{api.Circuit{Invars: []int{1}}, [][]int{{0, lastLit}}, api.MaxVars, [][]int{{-api.MaxVars - 1}, {api.MaxVars + 1, -api.MaxVars - api.MaxVar - 1}}}, {api.Circuit{Invars: []int{1}}, [][]int{{0}}, api.MaxVars - 1, [][]int{{-api.MaxVars}, {api.MaxVars}}},
	} {
		if got, e := tseitin.Force(x.c, x.assume, x.base); !same(got, x.want) || e != api.OK {
			t.Errorf("P12.1: Force(%v, %d, %d) = %d, %d, want %d", x.c, x.assume, x.base, got, e, x.want)
		}
	}
	// There is no bound to what is assumed.
	many := slices.Repeat([][]int{{3, 4}}, 1<<16)
	if got, e := tseitin.Force(api.Circuit{}, many, 2); !same(got, slices.Repeat([][]int{{-4, 5}}, 1<<16)) || e != api.OK {
		t.Errorf("P12.1: Force of many = %d, %d", len(got), e)
	}
}

// mayNot are circuits that may not be.
func mayNot() []api.Circuit {
	list := []api.Circuit{
		{Max: -1}, {Max: least}, {Max: api.MaxVar + 1}, {Max: greatest}, {Max: -1, Inputs: []int{2}},
		{Max: 1, Inputs: []int{4}}, {Max: 1, Inputs: []int{3}}, {Max: 1, Inputs: []int{0}}, {Max: 1, Inputs: []int{-2}}, {Max: 2, Inputs: []int{2, 2}}, {Max: 1, Inputs: []int{2}, Latches: []api.Latch{{Lit: 2}}}, {Max: 99, Inputs: slices.Repeat([]int{2}, api.MaxPins+1)}, {Max: greatest, Inputs: []int{greatest}},
		{Max: 1, Latches: []api.Latch{{Lit: 2, Next: 4}}}, {Max: 1, Latches: []api.Latch{{Lit: 2, Reset: 2, Next: -1}}}, {Max: 1, Latches: []api.Latch{{Lit: 2, Reset: 3}}}, {Max: 1, Latches: []api.Latch{{Lit: least}}}, {Max: 1, Latches: []api.Latch{{Lit: greatest}}},
		ands(api.And{Lit: 6, Left: 6, Right: 2}), ands(api.And{Lit: 6, Left: 7, Right: 2}), ands(api.And{Lit: 6, Left: 2, Right: -1}), ands(api.And{Lit: 8, Left: 2, Right: 4}), ands(api.And{Lit: 4, Left: 2, Right: 2}), ands(api.And{Lit: 8, Left: 2, Right: 4}, api.And{Lit: 6, Left: 2, Right: 4}), ands(api.And{Lit: least, Left: greatest, Right: least}),
		{Outputs: []int{2}}, {Bads: []int{-1}}, {Invars: []int{2}}, {Invars: []int{-1}}, {Invars: []int{greatest}}, {Invars: slices.Repeat([]int{1}, api.MaxPins+1)}, {Names: []api.Name{{Kind: "i", Text: "x"}}}, {Names: []api.Name{{}}},
	}
	odd := sample()
	odd.Max = 8
	odd.Ands[1].Lit = 18
	return append(list, odd)
}

func TestErrors(t *testing.T) {
	bases := []int{least, -api.MaxVars, -2, -1, api.MaxVars + 1, api.MaxVars + 2, 1 << 40, greatest}
	assumes := [][][]int{nil, {{}}, {{2}, nil}, {{least, greatest}}}
	told := func(c api.Circuit, base int, want api.Errno) {
		t.Helper()
		if got, e := tseitin.Gates(c, base); e != want || e != api.OK && got != nil {
			t.Errorf("P12.1: Gates(%v, %d) = %d, %d, want %d", c, base, got, e, want)
		}
		for _, assume := range assumes {
			if got, e := tseitin.Force(c, assume, base); e != want || e != api.OK && got != nil {
				t.Errorf("P12.1: Force(%v, %d, %d) = %d, %d, want %d", c, assume, base, got, e, want)
			}
		}
	}
	for _, c := range []api.Circuit{{}, {Max: api.MaxVar}, sample()} {
		for _, base := range bases {
			told(c, base, api.ErrRange)
		}
		for _, base := range []int{0, 1, api.MaxVar, api.MaxVars - 1, api.MaxVars} {
			told(c, base, api.OK)
		}
	}
	// The circuit's error goes ahead of the base's.
	for _, c := range mayNot() {
		if circuit.Check(c) != api.ErrState {
			t.Fatalf("%v may be", c)
		}
		for _, base := range append([]int{0, 1, api.MaxVars}, bases...) {
			told(c, base, api.ErrState)
		}
	}
}
