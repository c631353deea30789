package replay_test

import (
	"math"
	"reflect"
	"slices"
	"strings"
	"sync"
	"testing"
	"unsafe"

	"interlock/api"
	"interlock/replay"
)

func TestAllowed(t *testing.T) {
	none, odd := api.Circuit{}, api.Circuit{Max: 2, Invars: []int{2, 5}}
	for _, x := range []struct {
		c      api.Circuit
		assume [][]int
		values string
		want   bool
	}{
		// Nothing is asked.
		{none, nil, "0", true}, {none, [][]int{}, "", true}, {api.Circuit{Invars: []int{}}, nil, "x", true},
		// All Invars are true.
		{odd, nil, "010", true}, {odd, nil, "011", false}, {odd, nil, "000", false}, {odd, nil, "001", false},
		{api.Circuit{Invars: []int{1, 1, 2}}, nil, "00", false}, {api.Circuit{Invars: []int{2, 1, 1}}, nil, "00", false}, {api.Circuit{Invars: []int{1, 3, 1}}, nil, "01", false},
		{api.Circuit{Invars: []int{0}}, nil, "0", false}, {api.Circuit{Invars: []int{1}}, nil, "0", true},
		// All clauses hold, each by one of its literals.
		{none, [][]int{{2}}, "010", true}, {none, [][]int{{2}}, "001", false}, {none, [][]int{{2, 4}}, "001", true}, {none, [][]int{{2, 4}}, "010", true}, {none, [][]int{{2, 4}}, "000", false}, {none, [][]int{{3, 5}}, "011", false},
		{none, [][]int{{2}, {4}}, "011", true}, {none, [][]int{{2}, {4}}, "010", false}, {none, [][]int{{4}, {2}}, "010", false}, {none, [][]int{{2}, {4}, {3}}, "011", false}, {none, [][]int{{2}, {5}, {2, 4}}, "010", true},
		// An empty clause never holds.
		{none, [][]int{{}}, "010", false}, {none, [][]int{nil}, "", false}, {none, [][]int{{2}, nil, {2}}, "010", false}, {none, [][]int{{2}, {}}, "010", false},
		// Both are asked.
		{odd, [][]int{{3}}, "010", false}, {odd, [][]int{{2, 4}}, "010", true}, {odd, [][]int{{1}}, "000", false}, {odd, [][]int{{0}}, "010", false}, {odd, [][]int{{1}}, "010", true},
		// Of variables that have no value, of signs that are no bits, and of numbers below 0.
		{none, [][]int{{4}}, "01", false}, {none, [][]int{{5}}, "01", true}, {none, [][]int{{math.MaxInt}}, "", true}, {none, [][]int{{math.MaxInt - 1}}, "01", false}, {none, [][]int{{math.MaxInt - 1, 2}}, "01", true},
		{none, [][]int{{2}}, "0x", false}, {none, [][]int{{3}}, "0\xff", true},
		{none, [][]int{{-1}}, "01", false}, {none, [][]int{{-3, -2, math.MinInt}}, "011", false}, {none, [][]int{{-3, 2}}, "01", true},
		// Of circuits that may not be, too.
		{api.Circuit{Max: -1, Invars: []int{-1}}, nil, "01", false}, {api.Circuit{Invars: []int{math.MaxInt}}, nil, "01", true}, {api.Circuit{Invars: []int{math.MinInt}}, nil, "", false}, {api.Circuit{Max: math.MaxInt, Inputs: []int{-2}, Ands: []api.And{{Lit: 3}}}, nil, "", true},
	} {
		if got := replay.Allowed(x.c, x.assume, x.values); got != x.want {
			t.Errorf("P9.1: Allowed(%v, %v, %q) = %v", x.c, x.assume, x.values, got)
		}
	}
	// The Bads are nothing to it, nor are the Outputs.
	if !replay.Allowed(api.Circuit{Bads: []int{0}, Outputs: []int{0}}, nil, "0") {
		t.Error("P9.1: Allowed of a Bad that is false")
	}
}

// counter is a counter of two bits that goes on where its input is 1; its Bads are: 3, 2, at once, never.
func counter() api.Circuit {
	return api.Circuit{
		Max:     11,
		Inputs:  []int{2},
		Latches: []api.Latch{{Lit: 4, Next: 12}, {Lit: 6, Next: 18}},
		Bads:    []int{20, 22, 1, 0},
		Ands:    []api.And{{Lit: 8, Left: 4, Right: 2}, {Lit: 10, Left: 5, Right: 3}, {Lit: 12, Left: 9, Right: 11}, {Lit: 14, Left: 6, Right: 8}, {Lit: 16, Left: 7, Right: 9}, {Lit: 18, Left: 15, Right: 17}, {Lit: 20, Left: 6, Right: 4}, {Lit: 22, Left: 6, Right: 5}},
	}
}

// twister is a ring of two latches; the second one may be any at first, the input is turned into the first.
func twister() api.Circuit {
	return api.Circuit{Max: 3, Inputs: []int{6}, Latches: []api.Latch{{Lit: 4, Next: 7, Reset: 1}, {Lit: 2, Next: 4, Reset: 2}}, Bads: []int{2}}
}

// turn is a latch of its opposite; it has no inputs.
func turn() api.Circuit {
	return api.Circuit{Max: 1, Latches: []api.Latch{{Lit: 2, Next: 3}}, Bads: []int{2, 3}}
}

// pass has an input, and no latches.
func pass() api.Circuit {
	return api.Circuit{Max: 1, Inputs: []int{2}, Bads: []int{2}}
}

func TestStates(t *testing.T) {
	for _, x := range []struct {
		c      api.Circuit
		state  string
		inputs []string
		want   []string
		e      api.Errno
	}{
		// No inputs: the state alone, whether it is a first one or not.
		{turn(), "0", nil, []string{"0"}, api.OK}, {turn(), "1", []string{}, []string{"1"}, api.OK}, {api.Circuit{}, "", nil, []string{""}, api.OK}, {twister(), "01", nil, []string{"01"}, api.OK},
		{turn(), "0", []string{"", "", ""}, []string{"0", "1", "0", "1"}, api.OK}, {turn(), "1", []string{""}, []string{"1", "0"}, api.OK},
		{twister(), "10", []string{"1", "1", "0"}, []string{"10", "01", "00", "10"}, api.OK}, {twister(), "00", []string{"0", "0"}, []string{"00", "10", "11"}, api.OK},
		// No latches.
		{pass(), "", []string{"1", "0"}, []string{"", "", ""}, api.OK}, {api.Circuit{}, "", []string{"", ""}, []string{"", "", ""}, api.OK},
		// Steps that are not allowed are gone, too.
		{api.Circuit{Max: 1, Latches: []api.Latch{{Lit: 2, Next: 3}}, Invars: []int{0}}, "0", []string{"", ""}, []string{"0", "1", "0"}, api.OK},
		// Too few bits, too many, and other signs, of the state.
		{turn(), "", nil, nil, api.ErrLong}, {turn(), "00", nil, nil, api.ErrLong}, {turn(), "x", nil, nil, api.ErrLong}, {turn(), "\xff", []string{""}, nil, api.ErrLong}, {turn(), "", []string{""}, nil, api.ErrLong}, {pass(), "0", nil, nil, api.ErrLong}, {pass(), "0", []string{"0"}, nil, api.ErrLong}, {api.Circuit{}, "1", nil, nil, api.ErrLong}, {twister(), "0x", []string{"0"}, nil, api.ErrLong},
		// Of an input: of the only one, of the first, of one in the middle, of the last.
		{turn(), "0", []string{"0"}, nil, api.ErrLong}, {pass(), "", []string{""}, nil, api.ErrLong}, {pass(), "", []string{"00"}, nil, api.ErrLong}, {pass(), "", []string{"x"}, nil, api.ErrLong}, {pass(), "", []string{"2"}, nil, api.ErrLong},
		{twister(), "00", []string{"", "0", "1"}, nil, api.ErrLong}, {twister(), "00", []string{"1", "00", "1"}, nil, api.ErrLong}, {twister(), "00", []string{"1", "0", ""}, nil, api.ErrLong}, {twister(), "00", []string{"1", "0", "é"}, nil, api.ErrLong}, {turn(), "0", []string{"", " "}, nil, api.ErrLong},
	} {
		got, e := replay.States(x.c, x.state, x.inputs...)
		if !slices.Equal(got, x.want) || e != x.e {
			t.Errorf("P9.1: States(%v, %q, %q) = %q, %d, want %q, %d", x.c, x.state, x.inputs, got, e, x.want, x.e)
		}
	}
}

// told is what Check is asked, and what it should tell.
type told struct {
	c      api.Circuit
	assume [][]int
	bad    int
	state  string
	inputs []string
	want   api.Errno
}

func checked(t *testing.T, all []told) {
	t.Helper()
	for _, x := range all {
		w := api.Witness{Bad: x.bad, State: x.state, Inputs: x.inputs}
		if got := replay.Check(x.c, x.assume, w); got != x.want {
			t.Errorf("P9.1: Check(%v, %v, %v) = %d, want %d", x.c, x.assume, w, got, x.want)
		}
	}
}

func TestCheckTakesWhatIsRight(t *testing.T) {
	held := counter()
	held.Invars = []int{21, 1}
	checked(t, []told{
		// A Bad that is true at once, with no latches and no inputs.
		{api.Circuit{Bads: []int{1}}, nil, 0, "", []string{""}, api.OK}, {api.Circuit{Bads: []int{1}}, nil, 0, "", []string{"", "", ""}, api.OK},
		{counter(), nil, 2, "00", []string{"0"}, api.OK}, {turn(), nil, 1, "0", []string{""}, api.OK}, {turn(), nil, 0, "0", []string{"", ""}, api.OK},
		{pass(), nil, 0, "", []string{"1"}, api.OK}, {pass(), nil, 0, "", []string{"0", "0", "1"}, api.OK},
		{counter(), nil, 0, "00", []string{"1", "1", "1", "0"}, api.OK}, {counter(), nil, 0, "00", []string{"1", "0", "1", "1", "1"}, api.OK}, {counter(), nil, 1, "00", []string{"1", "1", "1"}, api.OK},
		// What is assumed may hold by another literal at each step; of a variable that there is not, by one that is not.
		{counter(), [][]int{{2, 20}}, 0, "00", []string{"1", "1", "1", "0"}, api.OK}, {counter(), [][]int{{1}, {4096, 1}, {4097}, {3, 2}}, 0, "00", []string{"1", "1", "1", "0"}, api.OK}, {counter(), [][]int{{math.MaxInt}}, 2, "00", []string{"0"}, api.OK},
		{held, [][]int{{2}}, 1, "00", []string{"1", "1", "1"}, api.OK},
		// A first state of a latch that is free.
		{twister(), nil, 0, "11", []string{"0"}, api.OK}, {twister(), nil, 0, "10", []string{"0", "0"}, api.OK},
		// A Bad that is true ahead of the last one, too.
		{turn(), nil, 0, "0", []string{"", "", "", ""}, api.OK},
	})
}

func TestCheckRange(t *testing.T) {
	checked(t, []told{
		{counter(), nil, -1, "00", []string{"0"}, api.ErrRange}, {counter(), nil, 3, "00", []string{"0"}, api.ErrFalse}, {counter(), nil, 4, "00", []string{"0"}, api.ErrRange}, {counter(), nil, math.MinInt, "00", []string{"0"}, api.ErrRange}, {counter(), nil, math.MaxInt, "00", []string{"0"}, api.ErrRange},
		{api.Circuit{}, nil, 0, "", []string{""}, api.ErrRange}, {api.Circuit{Bads: []int{1}}, nil, 1, "", []string{""}, api.ErrRange}, {api.Circuit{Outputs: []int{1}}, nil, 0, "", []string{""}, api.ErrRange},
		// Ahead of all that is said of the path.
		{counter(), nil, 4, "x", nil, api.ErrRange}, {counter(), [][]int{nil}, -1, "11", []string{"0", ""}, api.ErrRange},
	})
}

func TestCheckShort(t *testing.T) {
	checked(t, []told{
		{counter(), nil, 2, "00", nil, api.ErrShort}, {counter(), nil, 2, "00", []string{}, api.ErrShort}, {api.Circuit{Bads: []int{1}}, nil, 0, "", nil, api.ErrShort},
		// Ahead of bits, of a state that is no first one, of what is assumed.
		{counter(), nil, 2, "0", nil, api.ErrShort}, {counter(), nil, 2, "11", nil, api.ErrShort}, {counter(), [][]int{nil}, 3, "xx", nil, api.ErrShort},
	})
}

func TestCheckLong(t *testing.T) {
	checked(t, []told{
		{counter(), nil, 2, "", []string{"0"}, api.ErrLong}, {counter(), nil, 2, "0", []string{"0"}, api.ErrLong}, {counter(), nil, 2, "000", []string{"0"}, api.ErrLong}, {counter(), nil, 2, "0x", []string{"0"}, api.ErrLong}, {counter(), nil, 2, "é", []string{"0"}, api.ErrLong},
		{counter(), nil, 2, "00", []string{""}, api.ErrLong}, {counter(), nil, 2, "00", []string{"00"}, api.ErrLong}, {counter(), nil, 2, "00", []string{"x"}, api.ErrLong}, {counter(), nil, 2, "00", []string{"\x01"}, api.ErrLong},
		{api.Circuit{Bads: []int{1}}, nil, 0, "0", []string{""}, api.ErrLong}, {api.Circuit{Bads: []int{1}}, nil, 0, "", []string{"0"}, api.ErrLong}, {turn(), nil, 1, "0", []string{"0"}, api.ErrLong}, {pass(), nil, 0, "1", []string{"1"}, api.ErrLong},
		// Of the first input, of one in the middle, of the last.
		{counter(), nil, 2, "00", []string{"", "0", "0"}, api.ErrLong}, {counter(), nil, 2, "00", []string{"0", "01", "0"}, api.ErrLong}, {counter(), nil, 2, "00", []string{"0", "0", "x"}, api.ErrLong},
		// Ahead of a state that is no first one, and of steps that are not allowed, where they stand ahead, too.
		{counter(), nil, 2, "11", []string{"x"}, api.ErrLong}, {counter(), [][]int{nil}, 2, "11", []string{"0", "0", "01"}, api.ErrLong}, {counter(), [][]int{{3}}, 3, "00", []string{"1", "1", ""}, api.ErrLong},
	})
}

func TestCheckState(t *testing.T) {
	checked(t, []told{
		{counter(), nil, 2, "10", []string{"0"}, api.ErrState}, {counter(), nil, 2, "01", []string{"0"}, api.ErrState}, {counter(), nil, 2, "11", []string{"0"}, api.ErrState}, {turn(), nil, 0, "1", []string{""}, api.ErrState},
		// Of the latch that is not free.
		{twister(), nil, 0, "00", []string{"0"}, api.ErrState}, {twister(), nil, 0, "01", []string{"0"}, api.ErrState}, {twister(), nil, 0, "10", []string{"0"}, api.ErrFalse}, {twister(), nil, 0, "11", []string{"0"}, api.OK},
		// Ahead of steps that are not allowed.
		{counter(), [][]int{nil}, 3, "11", []string{"0"}, api.ErrState}, {counter(), [][]int{{3}}, 0, "11", []string{"1"}, api.ErrState},
	})
}

func TestCheckFalse(t *testing.T) {
	held := counter()
	held.Invars = []int{1, 21}
	shut := counter()
	shut.Invars = []int{0}
	checked(t, []told{
		// A Bad that is not true at the last one: never, not yet, ahead of it only.
		{counter(), nil, 3, "00", []string{"0"}, api.ErrFalse}, {counter(), nil, 0, "00", []string{"1", "1", "1"}, api.ErrFalse}, {counter(), nil, 0, "00", []string{"1", "1", "1", "1", "0"}, api.ErrFalse}, {counter(), nil, 1, "00", []string{"1", "1", "1", "0"}, api.ErrFalse}, {counter(), nil, 0, "00", []string{"1", "1", "0", "0"}, api.ErrFalse},
		{turn(), nil, 0, "0", []string{"", "", ""}, api.ErrFalse}, {pass(), nil, 0, "", []string{"1", "0"}, api.ErrFalse}, {api.Circuit{Bads: []int{0}}, nil, 0, "", []string{""}, api.ErrFalse},
		// A Bad that is true only behind the last one.
		{turn(), nil, 0, "0", []string{""}, api.ErrFalse},
		// A step that is not allowed: the first one, one in the middle, the last one.
		{counter(), [][]int{{2}}, 2, "00", []string{"0"}, api.ErrFalse}, {counter(), [][]int{{2}}, 2, "00", []string{"0", "1", "1"}, api.ErrFalse}, {counter(), [][]int{{2}}, 2, "00", []string{"1", "0", "1"}, api.ErrFalse}, {counter(), [][]int{{2}}, 2, "00", []string{"1", "1", "0"}, api.ErrFalse}, {counter(), [][]int{{1}, {2}}, 0, "00", []string{"1", "1", "1", "0"}, api.ErrFalse},
		{held, nil, 2, "00", []string{"1", "1", "1", "0", "0"}, api.ErrFalse}, {held, nil, 0, "00", []string{"1", "1", "1", "0"}, api.ErrFalse}, {held, nil, 2, "00", []string{"1", "1", "1", "1", "0"}, api.ErrFalse}, {shut, nil, 2, "00", []string{"0"}, api.ErrFalse},
		// A clause that is empty, of literals without a variable, of numbers below 0.
		{counter(), [][]int{nil}, 2, "00", []string{"0"}, api.ErrFalse}, {counter(), [][]int{{1}, {}}, 2, "00", []string{"0"}, api.ErrFalse}, {counter(), [][]int{{24, 4096}}, 2, "00", []string{"0"}, api.ErrFalse}, {counter(), [][]int{{math.MaxInt - 1}}, 2, "00", []string{"0"}, api.ErrFalse}, {counter(), [][]int{{0}}, 2, "00", []string{"0"}, api.ErrFalse}, {counter(), [][]int{{-1, -3, math.MinInt}}, 2, "00", []string{"0"}, api.ErrFalse},
	})
}

// mayNot lists circuits that may not be.
func mayNot() []api.Circuit {
	return []api.Circuit{
		{Max: -1}, {Max: api.MaxVar + 1}, {Max: math.MinInt}, {Max: math.MaxInt, Bads: []int{1}},
		{Inputs: []int{2}}, {Max: 1, Inputs: []int{3}}, {Max: 1, Inputs: []int{-2}}, {Max: 2, Inputs: []int{2, 2}}, {Max: 1, Inputs: []int{math.MaxInt - 1}},
		{Outputs: []int{2}}, {Bads: []int{-1}}, {Bads: []int{2, 1}}, {Invars: []int{math.MaxInt}}, {Bads: make([]int, api.MaxPins+1)},
		{Max: 1, Latches: []api.Latch{{Lit: 2, Next: 4}}}, {Max: 1, Latches: []api.Latch{{Lit: 2, Next: -2}}}, {Max: 1, Latches: []api.Latch{{Lit: 2, Next: 2, Reset: 3}}}, {Max: 1, Latches: []api.Latch{{Lit: 0, Next: 0}}},
		{Max: 1, Ands: []api.And{{Lit: 2, Left: 2, Right: 2}}}, {Max: 1, Ands: []api.And{{Lit: 2, Left: 1, Right: -1}}}, {Max: 1, Ands: []api.And{{Lit: 2, Left: math.MinInt, Right: math.MaxInt}}},
		{Max: 2, Ands: []api.And{{Lit: 4}, {Lit: 2}}}, {Max: 2, Ands: []api.And{{Lit: 2, Left: 4, Right: 4}, {Lit: 4, Left: 2, Right: 2}}},
		{Names: []api.Name{{Kind: "o", At: 0, Text: "x"}}},
	}
}

// A circuit that may not be is told ahead of all else.
func TestOfWhatMayNotBe(t *testing.T) {
	for _, c := range mayNot() {
		state, input := strings.Repeat("0", len(c.Latches)), strings.Repeat("1", len(c.Inputs))
		for _, x := range []struct {
			state  string
			inputs []string
		}{{state, nil}, {state, []string{input}}, {state, []string{input, input}}, {state + "0", []string{input}}, {state, []string{input, input + "x"}}, {"", nil}} {
			if got, e := replay.States(c, x.state, x.inputs...); len(got) != 0 || e != api.ErrState {
				t.Errorf("P9.1: States(%v, %q, %q) = %q, %d, want ErrState", c, x.state, x.inputs, got, e)
			}
			for _, bad := range []int{0, -1, len(c.Bads), math.MaxInt} {
				if e := replay.Check(c, [][]int{nil}, api.Witness{Bad: bad, State: x.state, Inputs: x.inputs}); e != api.ErrState {
					t.Errorf("P9.1: Check(%v) of %d, %q, %q = %d, want ErrState", c, bad, x.state, x.inputs, e)
				}
			}
		}
	}
}

// chance makes numbers, one after the other, always the same ones.
type chance uint64

func (r *chance) below(n int) int {
	*r = *r*6364136223846793005 + 1442695040888963407
	return int(uint64(*r)>>33) % n
}

func (r *chance) bits(n int) string {
	var s strings.Builder
	for range n {
		s.WriteByte("01"[r.below(2)])
	}
	return s.String()
}

// drawn is a circuit of up to so many variables, some of which are inputs, latches and ands.
func drawn(r *chance, most int) api.Circuit {
	c := api.Circuit{Max: 1 + r.below(most)}
	named := []int{0}
	pick := func() int { return 2*named[r.below(len(named))] + r.below(2) }
	for v := 1; v <= c.Max; v++ {
		switch r.below(5) {
		case 0:
			c.Inputs = append(c.Inputs, 2*v)
		case 1:
			c.Latches = append(c.Latches, api.Latch{Lit: 2 * v, Reset: []int{0, 1, 2 * v}[r.below(3)]})
		case 2, 3:
			c.Ands = append(c.Ands, api.And{Lit: 2 * v, Left: pick(), Right: pick()})
		default:
			continue
		}
		named = append(named, v)
	}
	for i := range c.Latches {
		c.Latches[i].Next = pick()
	}
	slices.Reverse(c.Inputs)
	for range r.below(4) {
		c.Bads = append(c.Bads, pick())
	}
	for range r.below(6) / 4 {
		c.Invars = append(c.Invars, pick())
	}
	return c
}

// assumed lists clauses of a circuit's literals, now and then of others.
func assumed(r *chance, c api.Circuit) [][]int {
	var all [][]int
	for range r.below(3) {
		var clause []int
		for range r.below(20) / 4 {
			clause = append(clause, r.below(2*(c.Max+3))-1)
		}
		all = append(all, clause)
	}
	return all
}

// meant is a literal's bit, worked out from what its variable is.
func meant(c api.Circuit, state, input string, l int) bool {
	if l%2 == 1 {
		return !meant(c, state, input, l-1)
	}
	if at := slices.Index(c.Inputs, l); at >= 0 {
		return input[at] == '1'
	}
	for at, latch := range c.Latches {
		if latch.Lit == l {
			return state[at] == '1'
		}
	}
	for _, and := range c.Ands {
		if and.Lit == l {
			return meant(c, state, input, and.Left) && meant(c, state, input, and.Right)
		}
	}
	return false
}

// meantNext is the state behind, worked out latch by latch.
func meantNext(c api.Circuit, state, input string) string {
	next := []byte(state)
	for i, latch := range c.Latches {
		next[i] = '0'
		if meant(c, state, input, latch.Next) {
			next[i] = '1'
		}
	}
	return string(next)
}

// meantAllowed tells whether a step is allowed, worked out literal by literal.
func meantAllowed(c api.Circuit, assume [][]int, state, input string) bool {
	for _, l := range c.Invars {
		if !meant(c, state, input, l) {
			return false
		}
	}
	for _, clause := range assume {
		holds := false
		for _, l := range clause {
			holds = holds || l >= 0 && meant(c, state, input, l)
		}
		if !holds {
			return false
		}
	}
	return true
}

// meantFirst tells whether a state might be a first one.
func meantFirst(c api.Circuit, state string) bool {
	for i, latch := range c.Latches {
		if latch.Reset < 2 && state[i] != byte('0'+latch.Reset) {
			return false
		}
	}
	return true
}

func TestOfDrawn(t *testing.T) {
	r, met := chance(9), map[api.Errno]int{}
	for range 20000 {
		c := drawn(&r, 16)
		assume, bad, state := assumed(&r, c), r.below(5)-1, r.bits(len(c.Latches))
		var inputs []string
		for range r.below(5) {
			inputs = append(inputs, r.bits(len(c.Inputs)))
		}
		states, allowed, led := []string{state}, true, false
		for i, input := range inputs {
			led = bad >= 0 && bad < len(c.Bads) && meant(c, states[i], input, c.Bads[bad])
			allowed = allowed && meantAllowed(c, assume, states[i], input)
			states = append(states, meantNext(c, states[i], input))
		}
		if got, e := replay.States(c, state, inputs...); !slices.Equal(got, states) || e != api.OK {
			t.Fatalf("P9.1: States(%v, %q, %q) = %q, %d, want %q", c, state, inputs, got, e, states)
		}
		want := api.OK
		switch {
		case bad < 0 || bad >= len(c.Bads):
			want = api.ErrRange
		case len(inputs) == 0:
			want = api.ErrShort
		case !meantFirst(c, state):
			want = api.ErrState
		case !allowed || !led:
			want = api.ErrFalse
		}
		met[want]++
		w := api.Witness{Bad: bad, State: state, Inputs: inputs}
		if got := replay.Check(c, assume, w); got != want {
			t.Fatalf("P9.1: Check(%v, %v, %v) = %d, want %d", c, assume, w, got, want)
		}
	}
	if len(met) != 5 || met[api.OK] < 100 {
		t.Errorf("too few of some answers were asked for: %v", met)
	}
}

func TestAllowedOfDrawn(t *testing.T) {
	r := chance(10)
	for range 5000 {
		c := drawn(&r, 12)
		assume, state, input := assumed(&r, c), r.bits(len(c.Latches)), r.bits(len(c.Inputs))
		values := make([]byte, c.Max+1)
		for v := range values {
			values[v] = '0'
			if meant(c, state, input, 2*v) {
				values[v] = '1'
			}
		}
		if got := replay.Allowed(c, assume, string(values)); got != meantAllowed(c, assume, state, input) {
			t.Fatalf("P9.1: Allowed(%v, %v, %q) = %v", c, assume, values, got)
		}
	}
}

// greatest is a circuit with as much of everything as there may be: a chain of ands as long as can be.
func greatest() api.Circuit {
	c := api.Circuit{Max: api.MaxVar}
	for n := range api.MaxPins {
		c.Inputs = append(c.Inputs, 2*n+2)
		lit := 2*api.MaxPins + 2*n + 2
		c.Latches = append(c.Latches, api.Latch{Lit: lit, Next: 2*api.MaxVar - n, Reset: []int{0, 1, lit}[n%3]})
		c.Bads = append(c.Bads, 0)
		c.Invars = append(c.Invars, 1)
	}
	for l := 4*api.MaxPins + 2; l <= 2*api.MaxVar; l += 2 {
		c.Ands = append(c.Ands, api.And{Lit: l, Left: l - 1, Right: 1})
	}
	c.Bads[api.MaxPins-1] = 2 * api.MaxVar
	return c
}

func TestTheGreatest(t *testing.T) {
	c := greatest()
	first := strings.Repeat("011", api.MaxPins)[:api.MaxPins-1] + "0"
	inputs := slices.Repeat([]string{strings.Repeat("10", api.MaxPins/2)}, api.MaxFrames)
	states, e := replay.States(c, first, inputs...)
	if len(states) != api.MaxFrames+1 || e != api.OK || states[0] != first || states[1] != strings.Repeat("0011", api.MaxPins/4) || states[2] != strings.Repeat("1100", api.MaxPins/4) {
		t.Errorf("P9.1: States of the greatest circuit = %q, %d", states, e)
	}
	// The last and is the opposite of the last latch, which turns with each step.
	last := api.MaxPins - 1
	for n, want := range map[int]api.Errno{2: api.OK, 1: api.ErrFalse, api.MaxFrames: api.OK, api.MaxFrames - 1: api.ErrFalse} {
		if e := replay.Check(c, [][]int{{2}, {4, 5}}, api.Witness{Bad: last, State: first, Inputs: inputs[:n]}); e != want {
			t.Errorf("P9.1: Check of %d steps of the greatest circuit = %d, want %d", n, e, want)
		}
	}
	// There is no bound to the steps but memory.
	many := make([]string, 1<<16)
	if states, e := replay.States(turn(), "0", many...); len(states) != 1<<16+1 || states[1<<16] != "0" || states[1<<16-1] != "1" || e != api.OK {
		t.Errorf("P9.1: States of many steps: %d, %d", len(states), e)
	}
	if e := replay.Check(turn(), nil, api.Witness{Bad: 0, State: "0", Inputs: many}); e != api.OK {
		t.Errorf("P9.1: Check of many steps: %d", e)
	}
}

// within tells whether the text lies in the memory of the other one.
func within(s, other string) bool {
	at := uintptr(unsafe.Pointer(unsafe.StringData(s)))
	first := uintptr(unsafe.Pointer(unsafe.StringData(other)))
	return first <= at && at < first+uintptr(len(other))
}

func TestAnswersAreNewMemory(t *testing.T) {
	keep := api.Circuit{Max: 1, Latches: []api.Latch{{Lit: 2, Next: 2, Reset: 2}}}
	for _, x := range []struct {
		c      api.Circuit
		state  string
		inputs int
	}{{keep, "0", 0}, {keep, "1", 3}, {keep, "0", 2}, {turn(), "1", 4}, {twister(), "01", 3}, {greatest(), strings.Repeat("0", api.MaxPins), 2}} {
		handed := []string{strings.Clone(x.state)}
		for range x.inputs {
			handed = append(handed, strings.Repeat("0", len(x.c.Inputs)))
		}
		first, _ := replay.States(x.c, handed[0], handed[1:]...)
		second, _ := replay.States(x.c, handed[0], handed[1:]...)
		if len(first) != x.inputs+1 || !slices.Equal(first, second) {
			t.Fatalf("P9.2: States(%v, %q) = %q, and then %q", x.c, handed, first, second)
		}
		all := slices.Concat(handed, first, second)
		for i, s := range all {
			for j, other := range all {
				if i != j && max(i, j) >= len(handed) && within(s, other) {
					t.Errorf("P9.2: the texts %d and %d of %q share memory", i, j, all)
				}
			}
		}
		first = append(first[:1], "other")
		if len(second) > 1 && second[1] == "other" {
			t.Errorf("P9.2: the lists of %q share memory", first)
		}
	}
}

func TestCallsLeaveTheirArguments(t *testing.T) {
	all := func() []api.Circuit { return append(mayNot(), counter(), twister(), greatest(), api.Circuit{}) }
	for i, c := range all() {
		made := func() ([][]int, []string) {
			input := strings.Repeat("1", len(c.Inputs))
			return [][]int{{5, 2, 2}, nil, {-3, math.MaxInt}, {1}}, []string{input, input, "x"}
		}
		assume, inputs := made()
		kept, left := made()
		state := strings.Repeat("0", len(c.Latches))
		w := api.Witness{Bad: 0, State: state, Inputs: inputs[:2]}
		replay.Allowed(c, assume, "010101")
		replay.Allowed(c, assume[3:], "010101")
		replay.States(c, state, inputs[:2]...)
		replay.States(c, state, inputs...)
		replay.Check(c, assume, w)
		replay.Check(c, assume[:1:1], w)
		replay.Check(c, nil, api.Witness{Inputs: inputs})
		if same := all()[i]; !reflect.DeepEqual(c, same) {
			t.Errorf("P9.2: %v was changed to %v", same, c)
		}
		if !reflect.DeepEqual(assume, kept) || !slices.Equal(inputs, left) || w.Bad != 0 || w.State != state || !slices.Equal(w.Inputs, left[:2]) {
			t.Errorf("P9.2: what was handed in was changed to %v, %q, %v", assume, inputs, w)
		}
	}
}

// Nil and empty lists are one.
func TestEmptyLists(t *testing.T) {
	empty := api.Circuit{Inputs: []int{}, Latches: []api.Latch{}, Outputs: []int{}, Bads: []int{1}, Invars: []int{}, Ands: []api.And{}, Names: []api.Name{}}
	states, e := replay.States(empty, "", []string{}...)
	short := replay.Check(empty, [][]int{}, api.Witness{Inputs: []string{}})
	right := replay.Check(empty, [][]int{}, api.Witness{Inputs: []string{""}})
	if !slices.Equal(states, []string{""}) || e != api.OK || short != api.ErrShort || right != api.OK || !replay.Allowed(empty, [][]int{}, "") {
		t.Errorf("P5: of empty lists: %q, %d, %d, %d", states, e, short, right)
	}
}

// P3: the answers hang on the arguments, however many ask at a time.
func TestSameAnswers(t *testing.T) {
	shared := greatest()
	state := strings.Repeat("011", api.MaxPins)[:api.MaxPins-1] + "0"
	inputs := slices.Repeat([]string{strings.Repeat("0", api.MaxPins)}, 4)
	want, _ := replay.States(shared, state, inputs...)
	w := api.Witness{Bad: api.MaxPins - 1, State: state, Inputs: inputs}
	var asked sync.WaitGroup
	for range 8 {
		asked.Add(1)
		go func() {
			defer asked.Done()
			for range 4 {
				got, e := replay.States(shared, state, inputs...)
				told := replay.Check(shared, [][]int{{1}}, w)
				if !slices.Equal(got, want) || e != api.OK || told != api.OK {
					t.Errorf("P3: of the greatest circuit: %q, %d, %d", got, e, told)
				}
			}
		}()
	}
	asked.Wait()
}
