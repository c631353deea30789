package ternary_test

import (
	"math"
	"reflect"
	"slices"
	"strings"
	"sync"
	"testing"
	"unsafe"

	"interlock/api"
	"interlock/circuit"
	"interlock/sim"
	"interlock/ternary"
)

func TestTrits(t *testing.T) {
	for _, x := range []struct {
		s    string
		n    int
		want bool
	}{
		{"0", 1, true}, {"1", 1, true}, {"x", 1, true}, {"01x", 3, true}, {"xx", 2, true}, {"1110", 4, true}, {strings.Repeat("0x1x", 16), 64, true},
		// No trits.
		{"", 0, true}, {"", 1, false}, {"x", 0, false},
		// Too few, too many, and as many as there never are.
		{"0x", 3, false}, {"0x", 1, false}, {"", -1, false}, {"x", -1, false}, {"", math.MinInt, false}, {"01", math.MinInt, false}, {"01", math.MaxInt, false},
		// Other signs, at the beginning, within, at the end.
		{"2", 1, false}, {"X", 1, false}, {"y", 1, false}, {"-", 1, false}, {"?", 1, false}, {"X01", 3, false}, {"0X1", 3, false}, {"01X", 3, false}, {" ", 1, false}, {"x ", 2, false}, {" x", 2, false}, {"\x00", 1, false}, {"\x01", 1, false}, {"x\n", 2, false}, {"/", 1, false},
		{"\xff", 1, false}, {"x\xff", 2, false}, {"\xf8", 1, false}, {"é", 2, false}, {"é", 1, false}, {"ｘ", 3, false}, {"ｘ", 1, false}, {"×", 2, false},
	} {
		if got := ternary.Trits(x.s, x.n); got != x.want {
			t.Errorf("P8.1: Trits(%q, %d) = %v", x.s, x.n, got)
		}
	}
}

// sample is a circuit with something of everything; of variables 1, 9, 11 and 20 there is nothing.
func sample() api.Circuit {
	return api.Circuit{
		Max:     20,
		Inputs:  []int{6, 4},
		Latches: []api.Latch{{Lit: 10, Next: 29}, {Lit: 38, Next: 39, Reset: 38}, {Lit: 8, Next: 6, Reset: 1}, {Lit: 36, Next: 1, Reset: 36}},
		Outputs: []int{24},
		Bads:    []int{30},
		Invars:  []int{5},
		Ands:    []api.And{{Lit: 12, Left: 6, Right: 4}, {Lit: 14, Left: 7, Right: 5}, {Lit: 16, Left: 13, Right: 15}, {Lit: 24, Left: 10, Right: 1}, {Lit: 26, Left: 0, Right: 11}, {Lit: 28, Left: 16, Right: 8}, {Lit: 30, Left: 28, Right: 28}},
		Names:   []api.Name{{Kind: "i", At: 0, Text: "!"}},
	}
}

func turn() api.Circuit {
	return api.Circuit{Max: 1, Latches: []api.Latch{{Lit: 2, Next: 3}}}
}

func own() api.Circuit {
	return api.Circuit{Max: 1, Latches: []api.Latch{{Lit: 2, Next: 3, Reset: 2}}}
}

func pass() api.Circuit {
	return api.Circuit{Max: 1, Inputs: []int{2}}
}

func TestValues(t *testing.T) {
	gate := api.Circuit{Max: 2, Ands: []api.And{{Lit: 4, Left: 1, Right: 1}}}
	for _, x := range []struct {
		c            api.Circuit
		state, input string
		want         string
		e            api.Errno
	}{
		{api.Circuit{}, "", "", "0", api.OK}, {api.Circuit{Max: 3}, "", "", "0000", api.OK},
		// No inputs, no latches, no ands.
		{turn(), "0", "", "00", api.OK}, {turn(), "1", "", "01", api.OK}, {turn(), "x", "", "0x", api.OK}, {pass(), "", "0", "00", api.OK}, {pass(), "", "1", "01", api.OK}, {pass(), "", "x", "0x", api.OK}, {gate, "", "", "001", api.OK},
		// Inputs and latches in their order, not in that of their variables; Reset is nothing to it.
		{sample(), "0000", "10", "000100001000000000000", api.OK},
		{sample(), "1111", "11", "001111100000100000110", api.OK},
		{sample(), "0000", "xx", "00xx00xxx000000000000", api.OK},
		{sample(), "0000", "0x", "00x0000xx000000000000", api.OK},
		{sample(), "0010", "1x", "00x110x0x00000xx00000", api.OK},
		{sample(), "0x00", "11", "0011001000000000000x0", api.OK},
		{sample(), "xxxx", "11", "0011xx100000x00000xx0", api.OK},
		{sample(), "xxxx", "xx", "00xxxxxxx000x0xx00xx0", api.OK},
		// Too few, too many, other signs.
		{turn(), "", "", "", api.ErrLong}, {turn(), "xx", "", "", api.ErrLong}, {turn(), "X", "", "", api.ErrLong}, {turn(), "x", "x", "", api.ErrLong}, {turn(), "2", "", "", api.ErrLong},
		{pass(), "", "", "", api.ErrLong}, {pass(), "", "xx", "", api.ErrLong}, {pass(), "", "X", "", api.ErrLong}, {pass(), "x", "x", "", api.ErrLong}, {pass(), "x", "", "", api.ErrLong}, {pass(), "", "\xff", "", api.ErrLong},
		{api.Circuit{}, "x", "", "", api.ErrLong}, {api.Circuit{}, "", "x", "", api.ErrLong}, {gate, "", " ", "", api.ErrLong},
		{sample(), "xxxx", "x", "", api.ErrLong}, {sample(), "xxxx", "xxx", "", api.ErrLong}, {sample(), "xxx", "xx", "", api.ErrLong}, {sample(), "xxxxx", "xx", "", api.ErrLong}, {sample(), "xx", "xxxx", "", api.ErrLong},
		{sample(), "00y0", "00", "", api.ErrLong}, {sample(), "0000", "0y", "", api.ErrLong}, {sample(), "00é", "00", "", api.ErrLong}, {sample(), strings.Repeat("x", 4096), "00", "", api.ErrLong},
	} {
		if got, e := ternary.Values(x.c, x.state, x.input); got != x.want || e != x.e {
			t.Errorf("P8.1: Values(%v, %q, %q) = %q, %d, want %q, %d", x.c, x.state, x.input, got, e, x.want, x.e)
		}
	}
}

func TestAnds(t *testing.T) {
	for _, x := range []struct {
		input       string
		left, right int
		want        byte
	}{
		{"00", 2, 4, '0'}, {"01", 2, 4, '0'}, {"10", 2, 4, '0'}, {"11", 2, 4, '1'},
		// Of 0 and x, of 1 and x, of x and x, the one ahead or the other.
		{"0x", 2, 4, '0'}, {"x0", 2, 4, '0'}, {"0x", 4, 2, '0'}, {"0x", 2, 5, '0'}, {"1x", 2, 4, 'x'}, {"x1", 2, 4, 'x'}, {"1x", 4, 2, 'x'}, {"1x", 2, 5, 'x'}, {"xx", 2, 4, 'x'}, {"xx", 5, 3, 'x'},
		{"1x", 3, 4, '0'}, {"0x", 3, 4, 'x'}, {"00", 3, 5, '1'}, {"x1", 3, 5, '0'}, {"x0", 3, 5, 'x'},
		// Of x and itself, and its opposite.
		{"x0", 2, 2, 'x'}, {"x0", 3, 3, 'x'}, {"x0", 2, 3, 'x'}, {"x0", 3, 2, 'x'}, {"10", 2, 3, '0'}, {"00", 2, 3, '0'},
		// Of variable 0.
		{"x0", 0, 2, '0'}, {"x0", 3, 0, '0'}, {"x0", 1, 2, 'x'}, {"x0", 3, 1, 'x'}, {"10", 1, 2, '1'}, {"00", 1, 0, '0'}, {"00", 1, 1, '1'},
	} {
		c := api.Circuit{Max: 3, Inputs: []int{2, 4}, Ands: []api.And{{Lit: 6, Left: x.left, Right: x.right}}}
		values, e := ternary.Values(c, "", x.input)
		if e != api.OK || values != "0"+x.input+string(x.want) || ternary.Of(values, 6) != x.want {
			t.Errorf("P8.1: Values(%v, \"\", %q) = %q, %d, want an and of %q", c, x.input, values, e, x.want)
		}
	}
}

func TestOf(t *testing.T) {
	for _, x := range []struct {
		values string
		l      int
		want   byte
	}{
		{"01", 0, '0'}, {"01", 1, '1'}, {"01", 2, '1'}, {"01", 3, '0'}, {"00", 2, '0'}, {"00", 3, '1'}, {"0x", 2, 'x'}, {"0x", 3, 'x'},
		{"01x0", 4, 'x'}, {"01x0", 5, 'x'}, {"01x0", 6, '0'}, {"01x0", 7, '1'},
		// A variable that has none.
		{"01", 4, 'x'}, {"01", 5, 'x'}, {"01", 6, 'x'}, {"01", 4096, 'x'}, {"01", 4097, 'x'}, {"01", math.MaxInt - 1, 'x'}, {"01", math.MaxInt, 'x'},
		{"", 0, 'x'}, {"", 1, 'x'}, {"", 2, 'x'}, {"", math.MaxInt, 'x'},
		// What stands for variable 0 is taken as it stands.
		{"1", 0, '1'}, {"1", 1, '0'}, {"x", 0, 'x'}, {"x", 1, 'x'},
		// A sign that is no trit is as none.
		{"02", 2, 'x'}, {"02", 3, 'x'}, {"0X", 2, 'x'}, {"0X", 3, 'x'}, {"0\xff", 2, 'x'}, {"0\x00", 3, 'x'}, {"\x01\x01", 2, 'x'}, {"é1", 4, '1'}, {"é1", 5, '0'}, {"é1", 2, 'x'},
		// A number below 0 counts as 0.
		{"01", -1, '0'}, {"01", -2, '0'}, {"01", -3, '0'}, {"01", math.MinInt, '0'}, {"", -1, 'x'}, {"", math.MinInt, 'x'}, {"1", -1, '1'},
	} {
		if got := ternary.Of(x.values, x.l); got != x.want {
			t.Errorf("P8.1: Of(%q, %d) = %q, want %q", x.values, x.l, got, x.want)
		}
	}
}

func TestNext(t *testing.T) {
	plain := api.Circuit{Max: 9, Inputs: []int{18}, Latches: []api.Latch{{Lit: 6, Next: 0}, {Lit: 4, Next: 1}, {Lit: 8, Next: 8}, {Lit: 2, Next: 6}, {Lit: 10, Next: 19}}}
	for _, x := range []struct {
		c            api.Circuit
		state, input string
		want         string
		e            api.Errno
	}{
		{turn(), "0", "", "1", api.OK}, {turn(), "1", "", "0", api.OK}, {turn(), "x", "", "x", api.OK},
		{api.Circuit{}, "", "", "", api.OK}, {pass(), "", "x", "", api.OK},
		{plain, "00000", "0", "01001", api.OK}, {plain, "11111", "1", "01110", api.OK}, {plain, "xxxxx", "x", "01xxx", api.OK}, {plain, "x0100", "1", "011x0", api.OK}, {plain, "0x1xx", "x", "0110x", api.OK},
		{sample(), "0000", "00", "1101", api.OK}, {sample(), "1111", "11", "1011", api.OK}, {sample(), "xxxx", "xx", "xxx1", api.OK}, {sample(), "xx0x", "xx", "1xx1", api.OK}, {sample(), "x0xx", "11", "1111", api.OK}, {sample(), "001x", "1x", "x111", api.OK},
		{turn(), "", "", "", api.ErrLong}, {turn(), "0x", "", "", api.ErrLong}, {turn(), "X", "", "", api.ErrLong}, {turn(), "x", "x", "", api.ErrLong}, {plain, "00000", "", "", api.ErrLong}, {plain, "xxxxx", "xx", "", api.ErrLong}, {plain, "00000", "-", "", api.ErrLong}, {plain, "xxxx", "x", "", api.ErrLong}, {api.Circuit{}, "x", "", "", api.ErrLong}, {api.Circuit{}, "", "x", "", api.ErrLong},
	} {
		if got, e := ternary.Next(x.c, x.state, x.input); got != x.want || e != x.e {
			t.Errorf("P8.1: Next(%v, %q, %q) = %q, %d, want %q, %d", x.c, x.state, x.input, got, e, x.want, x.e)
		}
	}
}

func TestCovers(t *testing.T) {
	for _, x := range []struct {
		a, b string
		want bool
	}{
		{"0", "0", true}, {"1", "1", true}, {"x", "x", true}, {"x", "0", true}, {"x", "1", true},
		{"0", "1", false}, {"1", "0", false}, {"0", "x", false}, {"1", "x", false},
		{"01x", "010", true}, {"01x", "011", true}, {"01x", "01x", true}, {"xxx", "01x", true}, {"x1x", "01x", true}, {"01x", "00x", false}, {"01x", "x1x", false}, {"01x", "11x", false}, {"xx1", "xxx", false}, {"xx1", "000", false},
		// None, and not as long.
		{"", "", true}, {"", "0", false}, {"", "x", false}, {"x", "", false}, {"0", "", false}, {"xx", "x", false}, {"x", "xx", false}, {"x", "01", false}, {"01", "0", false}, {"0", "01", false}, {"xxx", "01", false},
		// Signs that are no trits are held against each other as they are.
		{"2", "2", true}, {"x", "2", true}, {"2", "x", false}, {"X", "x", false}, {"X", "1", false}, {"x", "X", true}, {"é", "é", true}, {"xx", "é", true}, {"x", "é", false}, {"\xff", "\xfe", false},
	} {
		if got := ternary.Covers(x.a, x.b); got != x.want {
			t.Errorf("P8.1: Covers(%q, %q) = %v", x.a, x.b, got)
		}
	}
}

func TestLift(t *testing.T) {
	// Two latches, an input, an and of the latches, and one of the first latch and the input.
	two := api.Circuit{Max: 5, Inputs: []int{6}, Latches: []api.Latch{{Lit: 2, Next: 0}, {Lit: 4, Next: 0}}, Ands: []api.And{{Lit: 8, Left: 2, Right: 4}, {Lit: 10, Left: 2, Right: 6}}}
	for _, x := range []struct {
		c            api.Circuit
		state, input string
		hold         []int
		want         string
		e            api.Errno
	}{
		// The first one goes first.
		{two, "00", "0", []int{9}, "x0", api.OK}, {two, "10", "0", []int{9}, "x0", api.OK}, {two, "01", "0", []int{9}, "0x", api.OK}, {two, "11", "0", []int{8}, "11", api.OK},
		{two, "11", "0", []int{2}, "1x", api.OK}, {two, "11", "0", []int{4}, "x1", api.OK}, {two, "01", "1", []int{3, 4}, "01", api.OK}, {two, "00", "1", []int{9, 5, 3}, "00", api.OK}, {two, "00", "1", []int{9, 3}, "0x", api.OK}, {two, "00", "1", []int{9, 9, 9}, "x0", api.OK},
		// What an input keeps so.
		{two, "00", "0", []int{11}, "xx", api.OK}, {two, "10", "1", []int{10}, "1x", api.OK}, {two, "00", "x", []int{11}, "0x", api.OK}, {two, "10", "1", []int{6}, "xx", api.OK}, {two, "00", "0", []int{7, 11, 9}, "x0", api.OK},
		// What is not known already stays so.
		{two, "x0", "x", []int{9}, "x0", api.OK}, {two, "0x", "0", []int{9}, "0x", api.OK}, {two, "xx", "0", []int{11}, "xx", api.OK}, {two, "xx", "x", nil, "xx", api.OK},
		// No literals to hold, and those that are true anyway.
		{two, "01", "0", nil, "xx", api.OK}, {two, "11", "x", []int{}, "xx", api.OK}, {two, "01", "0", []int{1}, "xx", api.OK}, {two, "01", "0", []int{1, 1, 4}, "x1", api.OK},
		// No latches, no inputs.
		{pass(), "", "1", []int{2}, "", api.OK}, {pass(), "", "x", nil, "", api.OK}, {turn(), "1", "", []int{2}, "1", api.OK}, {turn(), "1", "", nil, "x", api.OK}, {api.Circuit{}, "", "", []int{1}, "", api.OK}, {api.Circuit{}, "", "", nil, "", api.OK},
		// One of hold is not 1: 0, not known, of variable 0, of a number below 0, of a variable that has none.
		{two, "00", "0", []int{8}, "", api.ErrFalse}, {two, "11", "0", []int{9}, "", api.ErrFalse}, {two, "11", "0", []int{2, 4, 10}, "", api.ErrFalse}, {two, "11", "0", []int{10, 2, 4}, "", api.ErrFalse}, {two, "1x", "0", []int{8}, "", api.ErrFalse}, {two, "1x", "0", []int{9}, "", api.ErrFalse}, {two, "11", "x", []int{6}, "", api.ErrFalse}, {two, "11", "x", []int{7}, "", api.ErrFalse},
		{two, "11", "1", []int{0}, "", api.ErrFalse}, {two, "11", "1", []int{-1}, "", api.ErrFalse}, {two, "11", "1", []int{-2}, "", api.ErrFalse}, {two, "11", "1", []int{math.MinInt}, "", api.ErrFalse}, {two, "11", "1", []int{12}, "", api.ErrFalse}, {two, "11", "1", []int{13}, "", api.ErrFalse}, {two, "11", "1", []int{math.MaxInt}, "", api.ErrFalse}, {api.Circuit{}, "", "", []int{3}, "", api.ErrFalse}, {pass(), "", "0", []int{2}, "", api.ErrFalse},
		// Of variable 1 to Max that is none's the trit is 0.
		{sample(), "0110", "10", []int{3, 41}, "xxxx", api.OK}, {sample(), "0110", "10", []int{2}, "", api.ErrFalse}, {sample(), "0110", "10", []int{28, 39}, "", api.ErrFalse}, {sample(), "0110", "10", []int{28, 38}, "x11x", api.OK}, {sample(), "0110", "00", []int{29}, "xxxx", api.OK}, {sample(), "0100", "10", []int{31}, "xx0x", api.OK},
		// Values' errors go ahead.
		{two, "1", "1", nil, "", api.ErrLong}, {two, "111", "1", []int{0}, "", api.ErrLong}, {two, "11", "", []int{0}, "", api.ErrLong}, {two, "11", "11", []int{2}, "", api.ErrLong}, {two, "1X", "1", []int{0}, "", api.ErrLong}, {two, "11", "2", []int{0}, "", api.ErrLong}, {api.Circuit{}, "x", "", nil, "", api.ErrLong}, {api.Circuit{}, "", "x", []int{0}, "", api.ErrLong},
	} {
		if got, e := ternary.Lift(x.c, x.state, x.input, x.hold...); got != x.want || e != x.e {
			t.Errorf("P8.1: Lift(%v, %q, %q, %v) = %q, %d, want %q, %d", x.c, x.state, x.input, x.hold, got, e, x.want, x.e)
		}
	}
}

// shift is a row of latches, each the one ahead of it next, the first of them 1.
func shift(n int) api.Circuit {
	c := api.Circuit{Max: n}
	for i := range n {
		c.Latches = append(c.Latches, api.Latch{Lit: 2*i + 2, Next: max(2*i, 1)})
	}
	return c
}

func TestWiden(t *testing.T) {
	still := api.Circuit{Max: 1, Latches: []api.Latch{{Lit: 2, Next: 2}}}
	fed := api.Circuit{Max: 3, Inputs: []int{2}, Latches: []api.Latch{{Lit: 4, Next: 2}, {Lit: 6, Next: 4, Reset: 1}}}
	held := api.Circuit{Max: 2, Inputs: []int{2}, Latches: []api.Latch{{Lit: 4, Next: 2}}, Invars: []int{5}}
	// What is next is joined to what was: a latch that is 1 ever after was 0 once.
	set := api.Circuit{Max: 2, Latches: []api.Latch{{Lit: 2, Next: 1}, {Lit: 4, Next: 0, Reset: 1}}}
	gated := api.Circuit{Max: 4, Inputs: []int{2}, Latches: []api.Latch{{Lit: 4, Next: 8}, {Lit: 6, Next: 4, Reset: 6}}, Ands: []api.And{{Lit: 8, Left: 4, Right: 2}}}
	for _, x := range []struct {
		c     api.Circuit
		most  int
		want  string
		steps int
		e     api.Errno
	}{
		{still, 5, "0", 0, api.OK}, {turn(), 5, "x", 1, api.OK}, {own(), 5, "x", 0, api.OK}, {set, 5, "xx", 1, api.OK}, {fed, 5, "xx", 1, api.OK}, {held, 5, "x", 1, api.OK}, {gated, 5, "0x", 0, api.OK}, {sample(), 5, "xxxx", 1, api.OK},
		// Until nothing changes, and steps that are used up.
		{shift(3), 0, "000", 0, api.OK}, {shift(3), 1, "x00", 1, api.OK}, {shift(3), 2, "xx0", 2, api.OK}, {shift(3), 3, "xxx", 3, api.OK}, {shift(3), 4, "xxx", 3, api.OK}, {shift(3), api.MaxFrames, "xxx", 3, api.OK},
		{still, 0, "0", 0, api.OK}, {turn(), 0, "0", 0, api.OK}, {turn(), 1, "x", 1, api.OK}, {own(), 0, "x", 0, api.OK}, {fed, 0, "01", 0, api.OK}, {fed, 1, "xx", 1, api.OK}, {sample(), 0, "0x1x", 0, api.OK},
		{shift(api.MaxPins), api.MaxFrames, strings.Repeat("x", api.MaxPins), api.MaxPins, api.OK}, {shift(api.MaxPins), api.MaxPins - 1, strings.Repeat("x", api.MaxPins-1) + "0", api.MaxPins - 1, api.OK},
		// No latches.
		{api.Circuit{}, 0, "", 0, api.OK}, {api.Circuit{}, api.MaxFrames, "", 0, api.OK}, {pass(), 3, "", 0, api.OK},
		{turn(), -1, "", 0, api.ErrRange}, {turn(), api.MaxFrames, "x", 1, api.OK}, {turn(), api.MaxFrames + 1, "", 0, api.ErrRange}, {turn(), math.MinInt, "", 0, api.ErrRange}, {turn(), math.MaxInt, "", 0, api.ErrRange}, {api.Circuit{}, -1, "", 0, api.ErrRange}, {api.Circuit{}, api.MaxFrames + 1, "", 0, api.ErrRange},
	} {
		if got, steps, e := ternary.Widen(x.c, x.most); got != x.want || steps != x.steps || e != x.e {
			t.Errorf("P8.2: Widen(%v, %d) = %q, %d, %d, want %q, %d, %d", x.c, x.most, got, steps, e, x.want, x.steps, x.e)
		}
	}
}

// mayNot lists circuits that may not be.
func mayNot() []api.Circuit {
	return []api.Circuit{
		{Max: -1}, {Max: api.MaxVar + 1}, {Max: math.MinInt}, {Max: math.MaxInt},
		{Inputs: []int{2}}, {Max: 1, Inputs: []int{3}}, {Max: 1, Inputs: []int{-2}}, {Max: 2, Inputs: []int{2, 2}}, {Max: 1, Inputs: []int{math.MaxInt - 1}},
		{Outputs: []int{2}}, {Bads: []int{-1}}, {Invars: []int{math.MaxInt}}, {Outputs: make([]int, api.MaxPins+1)},
		{Max: 1, Latches: []api.Latch{{Lit: 2, Next: 4}}}, {Max: 1, Latches: []api.Latch{{Lit: 2, Next: -2}}}, {Max: 1, Latches: []api.Latch{{Lit: 2, Next: 2, Reset: 3}}}, {Max: 1, Latches: []api.Latch{{Lit: 2, Next: 2, Reset: -1}}}, {Max: 1, Latches: []api.Latch{{Lit: 0, Next: 0}}},
		{Max: 1, Ands: []api.And{{Lit: 2, Left: 2, Right: 2}}}, {Max: 1, Ands: []api.And{{Lit: 2, Left: 1, Right: -1}}}, {Max: 1, Ands: []api.And{{Lit: 2, Left: math.MinInt, Right: math.MaxInt}}},
		{Max: 2, Ands: []api.And{{Lit: 4}, {Lit: 2}}}, {Max: 2, Ands: []api.And{{Lit: 2, Left: 4, Right: 4}, {Lit: 4, Left: 2, Right: 2}}},
		{Names: []api.Name{{Kind: "o", At: 0, Text: "x"}}},
	}
}

// A circuit that may not be is told ahead of trits that are too few, too many, or none, of what does not hold, and of steps that are too many.
func TestOfWhatMayNotBe(t *testing.T) {
	for _, c := range mayNot() {
		state, input := strings.Repeat("x", len(c.Latches)), strings.Repeat("1", len(c.Inputs))
		for _, x := range [][2]string{{state, input}, {state + "0", input}, {state, input + "X"}, {"", ""}} {
			if got, e := ternary.Values(c, x[0], x[1]); got != "" || e != api.ErrState {
				t.Errorf("P8.1: Values(%v, %q, %q) = %q, %d, want ErrState", c, x[0], x[1], got, e)
			}
			if got, e := ternary.Next(c, x[0], x[1]); got != "" || e != api.ErrState {
				t.Errorf("P8.1: Next(%v, %q, %q) = %q, %d, want ErrState", c, x[0], x[1], got, e)
			}
			for _, hold := range [][]int{nil, {1}, {0}, {-1, math.MaxInt}} {
				if got, e := ternary.Lift(c, x[0], x[1], hold...); got != "" || e != api.ErrState {
					t.Errorf("P8.1: Lift(%v, %q, %q, %v) = %q, %d, want ErrState", c, x[0], x[1], hold, got, e)
				}
			}
		}
		for _, most := range []int{0, 1, api.MaxFrames, -1, api.MaxFrames + 1, math.MinInt, math.MaxInt} {
			if got, steps, e := ternary.Widen(c, most); got != "" || steps != 0 || e != api.ErrState {
				t.Errorf("P8.2: Widen(%v, %d) = %q, %d, %d, want ErrState", c, most, got, steps, e)
			}
		}
	}
}

// chance makes numbers, one after the other, always the same ones.
type chance uint64

func (r *chance) below(n int) int {
	*r = *r*6364136223846793005 + 1442695040888963407
	return int(uint64(*r)>>33) % n
}

// trits is n trits, at most some of which are not known.
func (r *chance) trits(n int) string {
	var s strings.Builder
	for range n {
		s.WriteByte("010101x"[r.below(7)])
	}
	return s.String()
}

// bits is one of the texts of bits that the trits might be.
func (r *chance) bits(trits string) string {
	var s strings.Builder
	for i := range len(trits) {
		if trits[i] == 'x' {
			s.WriteByte("01"[r.below(2)])
		} else {
			s.WriteByte(trits[i])
		}
	}
	return s.String()
}

// drawn is a circuit of up to so many variables, some of which are inputs, latches and ands.
func drawn(r *chance, most int) api.Circuit {
	c := api.Circuit{Max: 1 + r.below(most)}
	named := []int{0}
	for v := 1; v <= c.Max; v++ {
		pick := func() int { return 2*named[r.below(len(named))] + r.below(2) }
		switch r.below(5) {
		case 0:
			c.Inputs = append(c.Inputs, 2*v)
		case 1:
			c.Latches = append(c.Latches, api.Latch{Lit: 2 * v, Reset: []int{0, 1, 2 * v}[r.below(3)]})
		case 2, 3:
			c.Ands = append(c.Ands, api.And{Lit: 2 * v, Left: pick(), Right: pick()})
		default:
			continue
		}
		named = append(named, v)
	}
	for i := range c.Latches {
		c.Latches[i].Next = 2*named[r.below(len(named))] + r.below(2)
	}
	slices.Reverse(c.Inputs)
	if len(c.Latches) > 2 {
		c.Latches[0], c.Latches[2] = c.Latches[2], c.Latches[0]
	}
	return c
}

// meant is a literal's trit, worked out from what its variable is.
func meant(c api.Circuit, state, input string, l int) byte {
	if l%2 == 1 {
		return map[byte]byte{'0': '1', '1': '0', 'x': 'x'}[meant(c, state, input, l-1)]
	}
	if at := slices.Index(c.Inputs, l); at >= 0 {
		return input[at]
	}
	for at, latch := range c.Latches {
		if latch.Lit == l {
			return state[at]
		}
	}
	for _, and := range c.Ands {
		if and.Lit == l {
			both := string([]byte{meant(c, state, input, and.Left), meant(c, state, input, and.Right)})
			switch {
			case strings.Contains(both, "0"):
				return '0'
			case strings.Contains(both, "x"):
				return 'x'
			}
			return '1'
		}
	}
	return '0'
}

func TestOfDrawn(t *testing.T) {
	r := chance(8)
	for range 2000 {
		c := drawn(&r, 24)
		state, input := r.trits(len(c.Latches)), r.trits(len(c.Inputs))
		values, e := ternary.Values(c, state, input)
		next, e2 := ternary.Next(c, state, input)
		if e != api.OK || e2 != api.OK || !ternary.Trits(values, c.Max+1) || !ternary.Trits(next, len(state)) {
			t.Fatalf("P8.1: Values, Next(%v, %q, %q) = %q, %d, %q, %d", c, state, input, values, e, next, e2)
		}
		for l := range 2 * (c.Max + 1) {
			if want := meant(c, state, input, l); ternary.Of(values, l) != want {
				t.Fatalf("P8.1: Of(Values(%v, %q, %q), %d) = %q", c, state, input, l, ternary.Of(values, l))
			}
		}
		for i, latch := range c.Latches {
			if next[i] != meant(c, state, input, latch.Next) {
				t.Fatalf("P8.1: Next(%v, %q, %q) = %q", c, state, input, next)
			}
		}
		for range 8 {
			some, told := r.bits(state), r.bits(input)
			if all, _ := sim.Values(c, some, told); !ternary.Covers(values, all) || !ternary.Covers(state, some) {
				t.Fatalf("P8.3: Values(%v, %q, %q) = %q, but of %q, %q: %q", c, state, input, values, some, told, all)
			}
			if then, _ := sim.Next(c, some, told); !ternary.Covers(next, then) {
				t.Fatalf("P8.3: Next(%v, %q, %q) = %q, but of %q, %q: %q", c, state, input, next, some, told, then)
			}
		}
	}
}

// Where all is known, the answers are those of layer 7.
func TestOfBits(t *testing.T) {
	r := chance(9)
	for range 500 {
		c := drawn(&r, 24)
		state, input := r.bits(r.trits(len(c.Latches))), r.bits(r.trits(len(c.Inputs)))
		values, _ := ternary.Values(c, state, input)
		next, _ := ternary.Next(c, state, input)
		want, _ := sim.Values(c, state, input)
		then, _ := sim.Next(c, state, input)
		if values != want || next != then {
			t.Fatalf("P8.3: Values, Next(%v, %q, %q) = %q, %q, want %q, %q", c, state, input, values, next, want, then)
		}
	}
}

// allMeant tells whether all the literals are 1.
func allMeant(c api.Circuit, state, input string, hold []int) bool {
	return !slices.ContainsFunc(hold, func(l int) bool { return meant(c, state, input, l) != '1' })
}

func TestLiftOfDrawn(t *testing.T) {
	r := chance(10)
	for range 2000 {
		c := drawn(&r, 16)
		state, input := r.trits(len(c.Latches)), r.trits(len(c.Inputs))
		var hold []int
		for range r.below(4) {
			if l := r.below(2 * (c.Max + 1)); r.below(20) == 0 || meant(c, state, input, l) == '1' {
				hold = append(hold, l)
			}
		}
		got, e := ternary.Lift(c, state, input, hold...)
		if !allMeant(c, state, input, hold) {
			if got != "" || e != api.ErrFalse {
				t.Fatalf("P8.1: Lift(%v, %q, %q, %v) = %q, %d, want ErrFalse", c, state, input, hold, got, e)
			}
			continue
		}
		want := state
		for i := range len(want) {
			if less := want[:i] + "x" + want[i+1:]; allMeant(c, less, input, hold) {
				want = less
			}
		}
		if got != want || e != api.OK {
			t.Fatalf("P8.1: Lift(%v, %q, %q, %v) = %q, %d, want %q", c, state, input, hold, got, e, want)
		}
		for range 8 {
			some, told := r.bits(got), r.bits(input)
			values, _ := sim.Values(c, some, told)
			if slices.ContainsFunc(hold, func(l int) bool { return !sim.True(values, l) }) {
				t.Fatalf("P8.3: Lift(%v, %q, %q, %v) = %q, but not of %q, %q", c, state, input, hold, got, some, told)
			}
		}
	}
}

// meantWiden is what is known after so many steps at most, worked out latch by latch.
func meantWiden(c api.Circuit, most int) (string, int) {
	state := make([]byte, len(c.Latches))
	for i, latch := range c.Latches {
		state[i] = "01x"[min(latch.Reset, 2)]
	}
	for steps := 0; steps < most; steps++ {
		was := string(state)
		for i, latch := range c.Latches {
			if meant(c, was, strings.Repeat("x", len(c.Inputs)), latch.Next) != was[i] {
				state[i] = 'x'
			}
		}
		if string(state) == was {
			return was, steps
		}
	}
	return string(state), most
}

func TestWidenOfDrawn(t *testing.T) {
	r := chance(11)
	for range 1000 {
		c := drawn(&r, 24)
		for _, most := range []int{0, 1, 2, 3, r.below(api.MaxFrames), api.MaxFrames} {
			want, steps := meantWiden(c, most)
			got, changed, e := ternary.Widen(c, most)
			if got != want || changed != steps || e != api.OK {
				t.Fatalf("P8.2: Widen(%v, %d) = %q, %d, %d, want %q, %d", c, most, got, changed, e, want, steps)
			}
			state, _ := sim.First(c, r.bits(strings.Repeat("x", len(c.Latches))))
			for range most {
				if !ternary.Covers(got, state) {
					break
				}
				state, _ = sim.Next(c, state, r.bits(strings.Repeat("x", len(c.Inputs))))
			}
			if !ternary.Covers(got, state) {
				t.Fatalf("P8.3: Widen(%v, %d) = %q, but %q is reached", c, most, got, state)
			}
		}
	}
}

// greatest is a circuit with as much of everything as there may be: a chain of ands as long as can be.
func greatest() api.Circuit {
	c := api.Circuit{Max: api.MaxVar}
	for n := range api.MaxPins {
		c.Inputs = append(c.Inputs, 2*n+2)
		lit := 2*api.MaxPins + 2*n + 2
		c.Latches = append(c.Latches, api.Latch{Lit: lit, Next: 2*api.MaxVar - n, Reset: []int{0, 1, lit}[n%3]})
	}
	for l := 4*api.MaxPins + 2; l <= 2*api.MaxVar; l += 2 {
		c.Ands = append(c.Ands, api.And{Lit: l, Left: l - 1, Right: 1})
	}
	return c
}

func TestTheGreatest(t *testing.T) {
	c := greatest()
	// The chain begins with not the last latch: where that is not known, none of it is.
	zeros, unknown := strings.Repeat("0", api.MaxPins), strings.Repeat("x", api.MaxPins)
	known, free := "0"+unknown+unknown[1:]+"0"+strings.Repeat("10", (api.MaxVar-2*api.MaxPins)/2), "0"+strings.Repeat("x", api.MaxVar)
	if got, e := ternary.Values(c, unknown[1:]+"0", unknown); got != known || e != api.OK {
		t.Errorf("P8.1: Values of the greatest circuit = %q, %d", got, e)
	}
	if got, e := ternary.Values(c, unknown, unknown); got != free || e != api.OK {
		t.Errorf("P8.1: Values of the greatest circuit = %q, %d", got, e)
	}
	if got, e := ternary.Next(c, unknown[1:]+"0", unknown); got != strings.Repeat("0011", api.MaxPins/4) || e != api.OK {
		t.Errorf("P8.1: Next of the greatest circuit = %q, %d", got, e)
	}
	hold := []int{2*api.MaxVar + 1, 2*api.MaxVar - 2, 1}
	if got, e := ternary.Lift(c, zeros, zeros, hold...); got != unknown[1:]+"0" || e != api.OK {
		t.Errorf("P8.1: Lift of the greatest circuit = %q, %d", got, e)
	}
	if got, steps, e := ternary.Widen(c, api.MaxFrames); got != unknown || steps != 2 || e != api.OK {
		t.Errorf("P8.2: Widen of the greatest circuit = %q, %d, %d", got, steps, e)
	}
	long := strings.Repeat("x", 1<<22)
	if _, e := ternary.Values(c, long, long); e != api.ErrLong || ternary.Trits(long+"X", 1<<22+1) || !ternary.Trits(long, 1<<22) || !ternary.Covers(long, long) || ternary.Covers(long, long+"x") || ternary.Of(long, 1<<23) != 'x' {
		t.Errorf("P8.1: of a long text: %d", e)
	}
}

// within tells whether the text lies in the memory of the other one.
func within(s, other string) bool {
	at := uintptr(unsafe.Pointer(unsafe.StringData(s)))
	first := uintptr(unsafe.Pointer(unsafe.StringData(other)))
	return first <= at && at < first+uintptr(len(other))
}

func TestAnswersAreNewMemory(t *testing.T) {
	keep := api.Circuit{Max: 1, Latches: []api.Latch{{Lit: 2, Next: 2, Reset: 2}}}
	pair := api.Circuit{Max: 2, Latches: []api.Latch{{Lit: 2, Next: 2, Reset: 2}, {Lit: 4, Next: 4, Reset: 4}}}
	for _, x := range []struct {
		c     api.Circuit
		state string
	}{{keep, "0"}, {keep, "1"}, {keep, "x"}, {pair, "0x"}, {pair, "xx"}, {greatest(), strings.Repeat("x", api.MaxPins)}} {
		state, input := strings.Clone(x.state), strings.Repeat("0", len(x.c.Inputs))
		for name, call := range map[string]func() string{
			"Next":          func() string { s, _ := ternary.Next(x.c, state, input); return s },
			"Values":        func() string { s, _ := ternary.Values(x.c, state, input); return s },
			"Lift":          func() string { s, _ := ternary.Lift(x.c, state, input); return s },
			"Widen":         func() string { s, _, _ := ternary.Widen(x.c, api.MaxFrames); return s },
			"Widen of none": func() string { s, _, _ := ternary.Widen(x.c, 0); return s },
		} {
			first, second := call(), call()
			if first != second || first == "" || within(first, state) || within(first, input) || within(first, second) || within(second, first) {
				t.Errorf("P8.4: the answer %q of %s shares memory", first, name)
			}
		}
	}
}

// A text of one sign is new memory, too, also where nothing is handed in that it could be made of.
func TestValuesOfNothingAreNewMemory(t *testing.T) {
	first, _ := ternary.Values(api.Circuit{}, "", "")
	second, _ := ternary.Values(api.Circuit{}, "", "")
	if first != "0" || second != "0" || within(first, second) {
		t.Errorf("P8.4: the values %q, %q of the empty circuit share memory", first, second)
	}
}

func TestCallsLeaveTheirArguments(t *testing.T) {
	all := func() []api.Circuit { return append(mayNot(), sample(), greatest(), api.Circuit{}) }
	for i, c := range all() {
		state, input := strings.Repeat("x", len(c.Latches)), strings.Repeat("1", len(c.Inputs))
		hold := []int{1, 1, 1, -3, 4}[:3:4]
		ternary.Values(c, state, input)
		ternary.Next(c, state, input)
		ternary.Lift(c, state, input, hold...)
		ternary.Lift(c, state, input, hold[:4]...)
		ternary.Widen(c, 3)
		if kept := all()[i]; !reflect.DeepEqual(c, kept) {
			t.Errorf("P8.4: %v was changed to %v", kept, c)
		}
		if !slices.Equal(hold[:4], []int{1, 1, 1, -3}) {
			t.Errorf("P8.4: what is to hold was changed to %v", hold[:4])
		}
	}
}

// Nil and empty lists are one.
func TestEmptyLists(t *testing.T) {
	empty := api.Circuit{Max: 2, Inputs: []int{}, Latches: []api.Latch{}, Outputs: []int{}, Bads: []int{}, Invars: []int{}, Ands: []api.And{}, Names: []api.Name{}}
	if !circuit.Same(empty, api.Circuit{Max: 2}) {
		t.Fatal("the empty circuit is another")
	}
	values, e := ternary.Values(empty, "", "")
	next, e2 := ternary.Next(empty, "", "")
	lifted, e3 := ternary.Lift(empty, "", "", []int{}...)
	wide, steps, e4 := ternary.Widen(empty, 2)
	if values != "000" || next != "" || lifted != "" || wide != "" || steps != 0 || e != api.OK || e2 != api.OK || e3 != api.OK || e4 != api.OK {
		t.Errorf("P5: of empty lists: %q, %d, %q, %d, %q, %d, %q, %d, %d", values, e, next, e2, lifted, e3, wide, steps, e4)
	}
}

// P3: the answers hang on the arguments, however many ask at a time.
func TestSameAnswers(t *testing.T) {
	shared := greatest()
	state, input := strings.Repeat("0x", api.MaxPins/2), strings.Repeat("1x", api.MaxPins/2)
	want, _ := ternary.Values(shared, state, input)
	lifted, _ := ternary.Lift(shared, state, input, 1)
	wide, steps, _ := ternary.Widen(shared, api.MaxFrames)
	var asked sync.WaitGroup
	for range 8 {
		asked.Add(1)
		go func() {
			defer asked.Done()
			for range 10 {
				got, e := ternary.Values(shared, state, input)
				got2, e2 := ternary.Lift(shared, state, input, 1)
				got3, n, e3 := ternary.Widen(shared, api.MaxFrames)
				if got != want || got2 != lifted || got3 != wide || n != steps || e != api.OK || e2 != api.OK || e3 != api.OK {
					t.Errorf("P3: of the greatest circuit: %q, %d, %q, %d, %q, %d, %d", got, e, got2, e2, got3, n, e3)
				}
			}
		}()
	}
	asked.Wait()
}
