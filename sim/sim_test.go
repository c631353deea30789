package sim_test

import (
	"math"
	"reflect"
	"slices"
	"strings"
	"sync"
	"testing"
	"unsafe"

	"interlock/api"
	"interlock/circuit"
	"interlock/sim"
)

func TestBits(t *testing.T) {
	for _, x := range []struct {
		s    string
		n    int
		want bool
	}{
		{"0", 1, true}, {"1", 1, true}, {"01", 2, true}, {"1110", 4, true}, {strings.Repeat("01", 32), 64, true},
		// No bits.
		{"", 0, true}, {"", 1, false}, {"0", 0, false},
		// Too few, too many, and as many as there never are.
		{"01", 3, false}, {"01", 1, false}, {"", -1, false}, {"0", -1, false}, {"", math.MinInt, false}, {"01", math.MaxInt, false},
		// Other signs.
		{"2", 1, false}, {"x", 1, false}, {"0x1", 3, false}, {" ", 1, false}, {"0 ", 2, false}, {" 1", 2, false}, {"\x00", 1, false}, {"\x01", 1, false}, {"1\n", 2, false}, {"/", 1, false}, {"O", 1, false},
		{"\xff", 1, false}, {"0\xff", 2, false}, {"\xb0", 1, false}, {"é", 2, false}, {"é", 1, false}, {"１", 3, false}, {"１", 1, false},
	} {
		if got := sim.Bits(x.s, x.n); got != x.want {
			t.Errorf("P7.1: Bits(%q, %d) = %v", x.s, x.n, got)
		}
	}
}

// sample is a circuit with something of everything; of variables 1, 9, 11 and 20 there is nothing.
func sample() api.Circuit {
	return api.Circuit{
		Max:     20,
		Inputs:  []int{6, 4},
		Latches: []api.Latch{{Lit: 10, Next: 29}, {Lit: 38, Next: 39, Reset: 38}, {Lit: 8, Next: 6, Reset: 1}, {Lit: 36, Next: 1, Reset: 36}},
		Outputs: []int{24},
		Bads:    []int{30},
		Invars:  []int{5},
		Ands:    []api.And{{Lit: 12, Left: 6, Right: 4}, {Lit: 14, Left: 7, Right: 5}, {Lit: 16, Left: 13, Right: 15}, {Lit: 24, Left: 10, Right: 1}, {Lit: 26, Left: 0, Right: 11}, {Lit: 28, Left: 16, Right: 8}, {Lit: 30, Left: 28, Right: 28}},
		Names:   []api.Name{{Kind: "i", At: 0, Text: "!"}},
	}
}

func TestValues(t *testing.T) {
	turn := api.Circuit{Max: 1, Latches: []api.Latch{{Lit: 2, Next: 3}}}
	pass := api.Circuit{Max: 1, Inputs: []int{2}}
	gate := api.Circuit{Max: 2, Ands: []api.And{{Lit: 4, Left: 1, Right: 1}}}
	for _, x := range []struct {
		c            api.Circuit
		state, input string
		want         string
		e            api.Errno
	}{
		{api.Circuit{}, "", "", "0", api.OK}, {api.Circuit{Max: 3}, "", "", "0000", api.OK},
		// No inputs, no latches, no ands.
		{turn, "0", "", "00", api.OK}, {turn, "1", "", "01", api.OK}, {pass, "", "0", "00", api.OK}, {pass, "", "1", "01", api.OK}, {gate, "", "", "001", api.OK},
		// Inputs and latches in their order, not in that of their variables; Reset is nothing to it.
		{sample(), "0000", "00", "000000010000000000000", api.OK},
		{sample(), "0000", "10", "000100001000000000000", api.OK},
		{sample(), "0000", "01", "001000001000000000000", api.OK},
		{sample(), "0000", "11", "001100100000000000000", api.OK},
		{sample(), "1000", "00", "000001010000100000000", api.OK},
		{sample(), "0100", "00", "000000010000000000010", api.OK},
		{sample(), "0010", "00", "000010010000000000000", api.OK},
		{sample(), "0001", "00", "000000010000000000100", api.OK},
		{sample(), "1111", "10", "000111001000101100110", api.OK},
		{sample(), "1111", "11", "001111100000100000110", api.OK},
		// Too few, too many, other signs.
		{turn, "", "", "", api.ErrLong}, {turn, "00", "", "", api.ErrLong}, {turn, "x", "", "", api.ErrLong}, {turn, "0", "0", "", api.ErrLong}, {turn, "2", "", "", api.ErrLong},
		{pass, "", "", "", api.ErrLong}, {pass, "", "11", "", api.ErrLong}, {pass, "", "x", "", api.ErrLong}, {pass, "0", "0", "", api.ErrLong}, {pass, "0", "", "", api.ErrLong}, {pass, "", "\xff", "", api.ErrLong},
		{api.Circuit{}, "0", "", "", api.ErrLong}, {api.Circuit{}, "", "0", "", api.ErrLong}, {gate, "", " ", "", api.ErrLong},
		{sample(), "0000", "0", "", api.ErrLong}, {sample(), "0000", "000", "", api.ErrLong}, {sample(), "000", "00", "", api.ErrLong}, {sample(), "00000", "00", "", api.ErrLong}, {sample(), "00", "0000", "", api.ErrLong},
		{sample(), "00x0", "00", "", api.ErrLong}, {sample(), "0000", "0x", "", api.ErrLong}, {sample(), "00é", "00", "", api.ErrLong}, {sample(), strings.Repeat("0", 4096), "00", "", api.ErrLong},
	} {
		if got, e := sim.Values(x.c, x.state, x.input); got != x.want || e != x.e {
			t.Errorf("P7.1: Values(%v, %q, %q) = %q, %d, want %q, %d", x.c, x.state, x.input, got, e, x.want, x.e)
		}
	}
}

func TestTrue(t *testing.T) {
	for _, x := range []struct {
		values string
		l      int
		want   bool
	}{
		{"01", 0, false}, {"01", 1, true}, {"01", 2, true}, {"01", 3, false}, {"00", 2, false}, {"00", 3, true},
		{"0101", 4, false}, {"0101", 5, true}, {"0101", 6, true}, {"0101", 7, false},
		// A variable that has no value.
		{"01", 4, false}, {"01", 5, true}, {"01", 6, false}, {"01", 4096, false}, {"01", 4097, true}, {"01", math.MaxInt - 1, false}, {"01", math.MaxInt, true},
		{"", 0, false}, {"", 1, true}, {"", 2, false}, {"", 3, true}, {"", math.MaxInt, true},
		// A sign that is no bit is no value.
		{"0x", 2, false}, {"0x", 3, true}, {"0\xff", 2, false}, {"0\xff", 3, true}, {"\x01\x01", 2, false}, {"0２", 3, true}, {"é1", 4, true}, {"é1", 5, false},
		// A number below 0 counts as 0.
		{"01", -1, false}, {"01", -2, false}, {"01", -3, false}, {"01", math.MinInt, false}, {"", -1, false}, {"", math.MinInt, false},
	} {
		if got := sim.True(x.values, x.l); got != x.want {
			t.Errorf("P7.1: True(%q, %d) = %v", x.values, x.l, got)
		}
	}
}

func TestHolds(t *testing.T) {
	for _, x := range []struct {
		values string
		clause []int
		want   bool
	}{
		{"010", []int{2}, true}, {"010", []int{3}, false}, {"010", []int{4}, false}, {"010", []int{5}, true},
		{"010", []int{3, 4}, false}, {"010", []int{3, 4, 2}, true}, {"010", []int{2, 4, 3}, true}, {"010", []int{3, 5, 4}, true}, {"010", []int{4, 5}, true}, {"010", []int{4, 4, 3, 3}, false},
		// No literals.
		{"010", nil, false}, {"010", []int{}, false}, {"", nil, false}, {"111", nil, false},
		// Of variable 0, of numbers below 0, and of variables that have no value.
		{"010", []int{0}, false}, {"010", []int{1}, true}, {"010", []int{-1}, false}, {"010", []int{-3, -2, math.MinInt}, false}, {"010", []int{-3, 2}, true},
		{"010", []int{6}, false}, {"010", []int{7}, true}, {"010", []int{math.MaxInt}, true}, {"010", []int{math.MaxInt - 1, 3}, false}, {"", []int{2, 4}, false}, {"", []int{2, 5}, true},
	} {
		if got := sim.Holds(x.values, x.clause); got != x.want {
			t.Errorf("P7.1: Holds(%q, %v) = %v", x.values, x.clause, got)
		}
	}
}

func TestNext(t *testing.T) {
	turn := api.Circuit{Max: 1, Latches: []api.Latch{{Lit: 2, Next: 3}}}
	plain := api.Circuit{Max: 9, Inputs: []int{18}, Latches: []api.Latch{{Lit: 6, Next: 0}, {Lit: 4, Next: 1}, {Lit: 8, Next: 8}, {Lit: 2, Next: 6}, {Lit: 10, Next: 19}}}
	for _, x := range []struct {
		c            api.Circuit
		state, input string
		want         string
		e            api.Errno
	}{
		{turn, "0", "", "1", api.OK}, {turn, "1", "", "0", api.OK},
		{api.Circuit{}, "", "", "", api.OK}, {api.Circuit{Max: 1, Inputs: []int{2}}, "", "1", "", api.OK},
		{plain, "00000", "0", "01001", api.OK}, {plain, "11111", "1", "01110", api.OK}, {plain, "10000", "0", "01011", api.OK}, {plain, "00100", "1", "01100", api.OK},
		{sample(), "0000", "00", "1101", api.OK}, {sample(), "0000", "10", "1111", api.OK}, {sample(), "0010", "10", "0111", api.OK}, {sample(), "1111", "11", "1011", api.OK}, {sample(), "1111", "01", "0001", api.OK},
		{turn, "", "", "", api.ErrLong}, {turn, "01", "", "", api.ErrLong}, {turn, "x", "", "", api.ErrLong}, {turn, "0", "1", "", api.ErrLong}, {plain, "00000", "", "", api.ErrLong}, {plain, "00000", "00", "", api.ErrLong}, {plain, "00000", "x", "", api.ErrLong}, {plain, "0000", "00", "", api.ErrLong}, {api.Circuit{}, "1", "", "", api.ErrLong},
	} {
		if got, e := sim.Next(x.c, x.state, x.input); got != x.want || e != x.e {
			t.Errorf("P7.1: Next(%v, %q, %q) = %q, %d, want %q, %d", x.c, x.state, x.input, got, e, x.want, x.e)
		}
	}
}

func TestFirst(t *testing.T) {
	own := api.Circuit{Max: 1, Latches: []api.Latch{{Lit: 2, Next: 3, Reset: 2}}}
	for _, x := range []struct {
		c    api.Circuit
		free string
		want string
		e    api.Errno
	}{
		{api.Circuit{}, "", "", api.OK}, {api.Circuit{Max: 1, Inputs: []int{2}}, "", "", api.OK},
		{own, "0", "0", api.OK}, {own, "1", "1", api.OK},
		{sample(), "0000", "0010", api.OK}, {sample(), "1111", "0111", api.OK}, {sample(), "0100", "0110", api.OK}, {sample(), "1001", "0011", api.OK},
		{own, "", "", api.ErrLong}, {own, "00", "", api.ErrLong}, {own, "x", "", api.ErrLong}, {own, "\xff", "", api.ErrLong}, {api.Circuit{}, "0", "", api.ErrLong}, {api.Circuit{Max: 1, Inputs: []int{2}}, "1", "", api.ErrLong},
		// All bits of free must be some, also those that are not taken.
		{sample(), "x000", "", api.ErrLong}, {sample(), "00x0", "", api.ErrLong}, {sample(), "01", "", api.ErrLong}, {sample(), "000", "", api.ErrLong}, {sample(), "00000", "", api.ErrLong}, {sample(), "", "", api.ErrLong},
	} {
		if got, e := sim.First(x.c, x.free); got != x.want || e != x.e {
			t.Errorf("P7.1: First(%v, %q) = %q, %d, want %q, %d", x.c, x.free, got, e, x.want, x.e)
		}
	}
}

func TestInitial(t *testing.T) {
	own := api.Circuit{Max: 1, Latches: []api.Latch{{Lit: 2, Next: 3, Reset: 2}}}
	for _, x := range []struct {
		c     api.Circuit
		state string
		want  bool
	}{
		{api.Circuit{}, "", true}, {api.Circuit{Max: 1, Inputs: []int{2}}, "", true}, {own, "0", true}, {own, "1", true},
		{sample(), "0010", true}, {sample(), "0011", true}, {sample(), "0110", true}, {sample(), "0111", true},
		{sample(), "1010", false}, {sample(), "0000", false}, {sample(), "1111", false}, {sample(), "1000", false},
		{api.Circuit{}, "0", false}, {own, "", false}, {own, "00", false}, {own, "x", false}, {own, "2", false}, {own, "\xff", false}, {sample(), "001", false}, {sample(), "00100", false}, {sample(), "0x10", false}, {sample(), "", false}, {sample(), "001x", false},
	} {
		if got := sim.Initial(x.c, x.state); got != x.want {
			t.Errorf("P7.1: Initial(%v, %q) = %v", x.c, x.state, got)
		}
	}
}

// mayNot lists circuits that may not be.
func mayNot() []api.Circuit {
	return []api.Circuit{
		{Max: -1}, {Max: api.MaxVar + 1}, {Max: math.MinInt}, {Max: math.MaxInt},
		{Inputs: []int{2}}, {Max: 1, Inputs: []int{3}}, {Max: 1, Inputs: []int{-2}}, {Max: 2, Inputs: []int{2, 2}}, {Max: 1, Inputs: []int{math.MaxInt - 1}},
		{Outputs: []int{2}}, {Bads: []int{-1}}, {Invars: []int{math.MaxInt}}, {Outputs: make([]int, api.MaxPins+1)},
		{Max: 1, Latches: []api.Latch{{Lit: 2, Next: 4}}}, {Max: 1, Latches: []api.Latch{{Lit: 2, Next: -2}}}, {Max: 1, Latches: []api.Latch{{Lit: 2, Next: 2, Reset: 3}}}, {Max: 1, Latches: []api.Latch{{Lit: 2, Next: 2, Reset: -1}}}, {Max: 1, Latches: []api.Latch{{Lit: 0, Next: 0}}},
		{Max: 1, Ands: []api.And{{Lit: 2, Left: 2, Right: 2}}}, {Max: 1, Ands: []api.And{{Lit: 2, Left: 1, Right: -1}}}, {Max: 1, Ands: []api.And{{Lit: 2, Left: math.MinInt, Right: math.MaxInt}}},
		{Max: 2, Ands: []api.And{{Lit: 4}, {Lit: 2}}}, {Max: 2, Ands: []api.And{{Lit: 2, Left: 4, Right: 4}, {Lit: 4, Left: 2, Right: 2}}},
		{Names: []api.Name{{Kind: "o", At: 0, Text: "x"}}},
	}
}

// A circuit that may not be is told ahead of bits that are too few, too many, or none.
func TestOfWhatMayNotBe(t *testing.T) {
	for _, c := range mayNot() {
		state, input := strings.Repeat("0", len(c.Latches)), strings.Repeat("1", len(c.Inputs))
		for _, x := range [][2]string{{state, input}, {state + "0", input}, {state, input + "x"}, {"", ""}} {
			if got, e := sim.Values(c, x[0], x[1]); got != "" || e != api.ErrState {
				t.Errorf("P7.1: Values(%v, %q, %q) = %q, %d, want ErrState", c, x[0], x[1], got, e)
			}
			if got, e := sim.Next(c, x[0], x[1]); got != "" || e != api.ErrState {
				t.Errorf("P7.1: Next(%v, %q, %q) = %q, %d, want ErrState", c, x[0], x[1], got, e)
			}
			if got, e := sim.First(c, x[0]); got != "" || e != api.ErrState {
				t.Errorf("P7.1: First(%v, %q) = %q, %d, want ErrState", c, x[0], got, e)
			}
			if sim.Initial(c, x[0]) {
				t.Errorf("P7.1: Initial(%v, %q)", c, x[0])
			}
		}
	}
}

// chance makes numbers, one after the other, always the same ones.
type chance uint64

func (r *chance) below(n int) int {
	*r = *r*6364136223846793005 + 1442695040888963407
	return int(uint64(*r)>>33) % n
}

func (r *chance) bits(n int) string {
	var s strings.Builder
	for range n {
		s.WriteByte("01"[r.below(2)])
	}
	return s.String()
}

// drawn is a circuit of up to so many variables, some of which are inputs, latches and ands.
func drawn(r *chance, most int) api.Circuit {
	c := api.Circuit{Max: 1 + r.below(most)}
	named := []int{0}
	for v := 1; v <= c.Max; v++ {
		pick := func() int { return 2*named[r.below(len(named))] + r.below(2) }
		switch r.below(5) {
		case 0:
			c.Inputs = append(c.Inputs, 2*v)
		case 1:
			c.Latches = append(c.Latches, api.Latch{Lit: 2 * v, Reset: []int{0, 1, 2 * v}[r.below(3)]})
		case 2, 3:
			c.Ands = append(c.Ands, api.And{Lit: 2 * v, Left: pick(), Right: pick()})
		default:
			continue
		}
		named = append(named, v)
	}
	for i := range c.Latches {
		c.Latches[i].Next = 2*named[r.below(len(named))] + r.below(2)
	}
	slices.Reverse(c.Inputs)
	if len(c.Latches) > 2 {
		c.Latches[0], c.Latches[2] = c.Latches[2], c.Latches[0]
	}
	return c
}

// meant is a literal's bit, worked out from what its variable is.
func meant(c api.Circuit, state, input string, l int) bool {
	if l%2 == 1 {
		return !meant(c, state, input, l-1)
	}
	if at := slices.Index(c.Inputs, l); at >= 0 {
		return input[at] == '1'
	}
	for at, latch := range c.Latches {
		if latch.Lit == l {
			return state[at] == '1'
		}
	}
	for _, and := range c.Ands {
		if and.Lit == l {
			return meant(c, state, input, and.Left) && meant(c, state, input, and.Right)
		}
	}
	return false
}

func TestOfDrawn(t *testing.T) {
	r := chance(7)
	for range 2000 {
		c := drawn(&r, 24)
		state, input := r.bits(len(c.Latches)), r.bits(len(c.Inputs))
		values, e := sim.Values(c, state, input)
		if e != api.OK || !sim.Bits(values, c.Max+1) {
			t.Fatalf("P7.1: Values(%v, %q, %q) = %q, %d", c, state, input, values, e)
		}
		for l := range 2 * (c.Max + 1) {
			if want := meant(c, state, input, l); sim.True(values, l) != want || sim.Holds(values, []int{l}) != want {
				t.Fatalf("P7.1: True(Values(%v, %q, %q), %d) = %v", c, state, input, l, !want)
			}
		}
		next, e := sim.Next(c, state, input)
		first, e2 := sim.First(c, state)
		if e != api.OK || e2 != api.OK || len(next) != len(state) || len(first) != len(state) {
			t.Fatalf("P7.1: Next(%v, %q, %q) = %q, %d, First = %q, %d", c, state, input, next, e, first, e2)
		}
		might := true
		for i, latch := range c.Latches {
			if (next[i] == '1') != meant(c, state, input, latch.Next) {
				t.Fatalf("P7.1: Next(%v, %q, %q) = %q", c, state, input, next)
			}
			want := byte('0' + latch.Reset)
			if latch.Reset > 1 {
				want = state[i]
			}
			if first[i] != want {
				t.Fatalf("P7.1: First(%v, %q) = %q", c, state, first)
			}
			might = might && state[i] == want
		}
		if sim.Initial(c, state) != might || !sim.Initial(c, first) {
			t.Fatalf("P7.1: Initial(%v, %q) = %v", c, state, !might)
		}
	}
}

// greatest is a circuit with as much of everything as there may be: a chain of ands as long as can be.
func greatest() api.Circuit {
	c := api.Circuit{Max: api.MaxVar}
	for n := range api.MaxPins {
		c.Inputs = append(c.Inputs, 2*n+2)
		lit := 2*api.MaxPins + 2*n + 2
		c.Latches = append(c.Latches, api.Latch{Lit: lit, Next: 2*api.MaxVar - n, Reset: []int{0, 1, lit}[n%3]})
	}
	for l := 4*api.MaxPins + 2; l <= 2*api.MaxVar; l += 2 {
		c.Ands = append(c.Ands, api.And{Lit: l, Left: l - 1, Right: 1})
	}
	return c
}

func TestTheGreatest(t *testing.T) {
	c := greatest()
	pins := strings.Repeat("0", api.MaxPins)
	want := "0" + pins + pins + strings.Repeat("10", (api.MaxVar-2*api.MaxPins)/2)
	if got, e := sim.Values(c, pins, pins); got != want || e != api.OK {
		t.Errorf("P7.1: Values of the greatest circuit = %q, %d", got, e)
	}
	if got, e := sim.Next(c, pins, pins); got != strings.Repeat("0011", api.MaxPins/4) || e != api.OK {
		t.Errorf("P7.1: Next of the greatest circuit = %q, %d", got, e)
	}
	if got, e := sim.First(c, strings.Repeat("1", api.MaxPins)); got != strings.Repeat("011", api.MaxPins)[:api.MaxPins] || e != api.OK || !sim.Initial(c, got) {
		t.Errorf("P7.1: First of the greatest circuit = %q, %d", got, e)
	}
	long := strings.Repeat("0", 1<<22)
	if _, e := sim.Values(c, long, long); e != api.ErrLong || sim.Bits(long+"x", 1<<22+1) || !sim.Bits(long, 1<<22) || sim.True(long, 1<<22) {
		t.Errorf("P7.1: of a long text: %d", e)
	}
}

// within tells whether the text lies in the memory of the other one.
func within(s, other string) bool {
	at := uintptr(unsafe.Pointer(unsafe.StringData(s)))
	first := uintptr(unsafe.Pointer(unsafe.StringData(other)))
	return first <= at && at < first+uintptr(len(other))
}

func TestAnswersAreNewMemory(t *testing.T) {
	keep := api.Circuit{Max: 1, Latches: []api.Latch{{Lit: 2, Next: 2, Reset: 2}}}
	pair := api.Circuit{Max: 2, Latches: []api.Latch{{Lit: 2, Next: 2, Reset: 2}, {Lit: 4, Next: 4, Reset: 4}}}
	for _, x := range []struct {
		c     api.Circuit
		state string
	}{{keep, "0"}, {keep, "1"}, {pair, "01"}, {greatest(), strings.Repeat("0", api.MaxPins)}} {
		state, input := strings.Clone(x.state), strings.Repeat("0", len(x.c.Inputs))
		for name, call := range map[string]func() string{
			"Next":   func() string { s, _ := sim.Next(x.c, state, input); return s },
			"First":  func() string { s, _ := sim.First(x.c, state); return s },
			"Values": func() string { s, _ := sim.Values(x.c, state, input); return s },
		} {
			first, second := call(), call()
			if first != second || first == "" || within(first, state) || within(first, input) || within(first, second) || within(second, first) {
				t.Errorf("P7.2: the answer %q of %s shares memory", first, name)
			}
		}
	}
}

func TestCallsLeaveTheirArguments(t *testing.T) {
	all := func() []api.Circuit { return append(mayNot(), sample(), greatest(), api.Circuit{}) }
	for i, c := range all() {
		state, input := strings.Repeat("0", len(c.Latches)), strings.Repeat("1", len(c.Inputs))
		sim.Values(c, state, input)
		sim.Next(c, state, input)
		sim.First(c, state)
		sim.Initial(c, state)
		if kept := all()[i]; !reflect.DeepEqual(c, kept) {
			t.Errorf("P7.2: %v was changed to %v", kept, c)
		}
	}
	clause := []int{9, -3, 2, 2, math.MaxInt, 0, 4}[:6:7]
	sim.Holds("0101", clause)
	if !slices.Equal(clause[:7], []int{9, -3, 2, 2, math.MaxInt, 0, 4}) {
		t.Errorf("P7.2: the clause was changed to %v", clause[:7])
	}
}

// Nil and empty lists are one.
func TestEmptyLists(t *testing.T) {
	empty := api.Circuit{Max: 2, Inputs: []int{}, Latches: []api.Latch{}, Outputs: []int{}, Bads: []int{}, Invars: []int{}, Ands: []api.And{}, Names: []api.Name{}}
	if !circuit.Same(empty, api.Circuit{Max: 2}) {
		t.Fatal("the empty circuit is another")
	}
	values, e := sim.Values(empty, "", "")
	next, e2 := sim.Next(empty, "", "")
	first, e3 := sim.First(empty, "")
	if values != "000" || next != "" || first != "" || e != api.OK || e2 != api.OK || e3 != api.OK || !sim.Initial(empty, "") {
		t.Errorf("P5: of empty lists: %q, %d, %q, %d, %q, %d", values, e, next, e2, first, e3)
	}
}

// P3: the answers hang on the arguments, however many ask at a time.
func TestSameAnswers(t *testing.T) {
	shared := greatest()
	state, input := strings.Repeat("01", api.MaxPins/2), strings.Repeat("10", api.MaxPins/2)
	want, _ := sim.Values(shared, state, input)
	next, _ := sim.Next(shared, state, input)
	var asked sync.WaitGroup
	for range 8 {
		asked.Add(1)
		go func() {
			defer asked.Done()
			for range 20 {
				got, e := sim.Values(shared, state, input)
				got2, e2 := sim.Next(shared, state, input)
				if got != want || got2 != next || e != api.OK || e2 != api.OK {
					t.Errorf("P3: Values, Next of the greatest circuit = %q, %d, %q, %d", got, e, got2, e2)
				}
			}
		}()
	}
	asked.Wait()
}
