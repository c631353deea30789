package strash_test

import (
	"math"
	"reflect"
	"slices"
	"strconv"
	"strings"
	"sync"
	"testing"
	"unsafe"

	"interlock/api"
	"interlock/circuit"
	"interlock/strash"
)

func TestPlain(t *testing.T) {
	for _, x := range []struct {
		a, b, want int
		is         bool
	}{
		// Of a literal and 0.
		{0, 0, 0, true}, {0, 1, 0, true}, {0, 2, 0, true}, {0, 3, 0, true}, {0, 4096, 0, true}, {0, math.MaxInt, 0, true},
		// Of one and 1.
		{1, 1, 1, true}, {1, 2, 2, true}, {1, 3, 3, true}, {1, 4097, 4097, true}, {1, math.MaxInt, math.MaxInt, true},
		// Of one twice.
		{2, 2, 2, true}, {3, 3, 3, true}, {4, 4, 4, true}, {4097, 4097, 4097, true}, {math.MaxInt, math.MaxInt, math.MaxInt, true},
		// Of one and its opposite.
		{2, 3, 0, true}, {4, 5, 0, true}, {4096, 4097, 0, true}, {math.MaxInt - 1, math.MaxInt, 0, true},
		// No plain ones.
		{2, 4, 0, false}, {2, 5, 0, false}, {3, 4, 0, false}, {3, 5, 0, false}, {5, 6, 0, false}, {2, 4096, 0, false}, {3, math.MaxInt, 0, false}, {1 << 40, 1<<40 + 2, 0, false},
		// A number below 0 counts as 0.
		{-1, 7, 0, true}, {-1, 1, 0, true}, {-1, -1, 0, true}, {-4, -5, 0, true}, {-2, -2, 0, true}, {math.MinInt, math.MaxInt, 0, true}, {math.MinInt, math.MinInt, 0, true}, {-3, 0, 0, true}, {-3, 2, 0, true},
	} {
		if got, is := strash.Plain(x.a, x.b); got != x.want || is != x.is {
			t.Errorf("P6.1: Plain(%d, %d) = %d, %v, want %d, %v", x.a, x.b, got, is, x.want, x.is)
		}
		if got, is := strash.Plain(x.b, x.a); got != x.want || is != x.is {
			t.Errorf("P6.1: Plain(%d, %d) = %d, %v, want %d, %v", x.b, x.a, got, is, x.want, x.is)
		}
	}
}

// A plain and of literals of up to three variables is what the and of their values is, and one that is not plain is no literal at all.
func TestPlainByValues(t *testing.T) {
	value := func(l, bits int) int { return (bits<<1)>>(l/2)&1 ^ l&1 }
	for a := range 8 {
		for b := range 8 {
			got, is := strash.Plain(a, b)
			for l := range 8 {
				one := true
				for bits := range 8 {
					one = one && value(a, bits)&value(b, bits) == value(l, bits)
				}
				if one && !is || is && one != (got == l) {
					t.Errorf("P6.1: Plain(%d, %d) = %d, %v, and it is %d: %v", a, b, got, is, l, one)
				}
			}
		}
	}
}

// sample is a circuit with something of everything: plain ands, ands that are there twice, and one that nothing hangs on.
func sample() api.Circuit {
	return api.Circuit{
		Max:     20,
		Inputs:  []int{4, 2},
		Latches: []api.Latch{{Lit: 8, Next: 27}, {Lit: 40, Next: 40, Reset: 40}, {Lit: 6, Next: 21, Reset: 1}},
		Outputs: []int{24, 17, 4},
		Bads:    []int{30, 13},
		Invars:  []int{5, 29, 1},
		Ands: []api.And{
			{Lit: 10, Left: 2, Right: 5}, {Lit: 12, Left: 1, Right: 8}, {Lit: 14, Left: 6, Right: 2}, {Lit: 16, Left: 5, Right: 2},
			{Lit: 20, Left: 16, Right: 13}, {Lit: 24, Left: 9, Right: 10}, {Lit: 26, Left: 24, Right: 21}, {Lit: 28, Left: 21, Right: 24}, {Lit: 30, Left: 29, Right: 0},
		},
		Names: []api.Name{
			{Kind: "i", At: 0, Text: "request"}, {Kind: "i", At: 1, Text: "!"},
			{Kind: "l", At: 2, Text: "~"}, {Kind: "o", At: 1, Text: "request"},
			{Kind: "b", At: 1, Text: "never"}, {Kind: "c", At: 0, Text: "0"}, {Kind: "c", At: 2, Text: "c2"},
		},
	}
}

// sampleHashed is the sample, hashed: 12 is 8, 16 is 10, 24 is 20, 26 is 0, 28 is 0, 30 is 0, and 14 is left out.
func sampleHashed() api.Circuit {
	c := sample()
	c.Latches[0].Next = 1
	c.Outputs = []int{20, 11, 4}
	c.Bads = []int{0, 9}
	c.Invars = []int{5, 1, 1}
	c.Ands = []api.And{{Lit: 10, Left: 2, Right: 5}, {Lit: 20, Left: 10, Right: 9}}
	return c
}

// bad is a circuit of inputs 2, 4 and 6 with those ands, and one Bad.
func bad(l int, ands ...api.And) api.Circuit {
	return api.Circuit{Max: 20, Inputs: []int{2, 4, 6}, Bads: []int{l}, Ands: ands}
}

// cases are circuits, and what they are, hashed.
func cases() []struct {
	name    string
	c, want api.Circuit
} {
	return []struct {
		name    string
		c, want api.Circuit
	}{
		{"nothing", api.Circuit{}, api.Circuit{}},
		{"no ands", bad(5), bad(5)},
		{"an and that stays", bad(8, api.And{Lit: 8, Left: 2, Right: 4}), bad(8, api.And{Lit: 8, Left: 2, Right: 4})},
		{"an and that stays, its lower literal ahead", bad(9, api.And{Lit: 8, Left: 3, Right: 5}), bad(9, api.And{Lit: 8, Left: 3, Right: 5})},
		{"an and that stays, its greater literal ahead", bad(9, api.And{Lit: 8, Left: 5, Right: 3}), bad(9, api.And{Lit: 8, Left: 5, Right: 3})},
		{"one literal twice", bad(8, api.And{Lit: 8, Left: 4, Right: 4}), bad(4)},
		{"one literal twice, not", bad(9, api.And{Lit: 8, Left: 5, Right: 5}), bad(4)},
		{"a literal and its opposite", bad(8, api.And{Lit: 8, Left: 4, Right: 5}), bad(0)},
		{"an opposite and its literal", bad(9, api.And{Lit: 8, Left: 5, Right: 4}), bad(1)},
		{"0 on the left", bad(8, api.And{Lit: 8, Left: 0, Right: 5}), bad(0)},
		{"0 on the right", bad(9, api.And{Lit: 8, Left: 5, Right: 0}), bad(1)},
		{"1 on the left", bad(8, api.And{Lit: 8, Left: 1, Right: 5}), bad(5)},
		{"1 on the right", bad(9, api.And{Lit: 8, Left: 5, Right: 1}), bad(4)},
		{"0 and 1", bad(9, api.And{Lit: 8, Left: 0, Right: 1}), bad(1)},
		{"1 twice", bad(8, api.And{Lit: 8, Left: 1, Right: 1}), bad(1)},
		{"the same literals", bad(11, api.And{Lit: 8, Left: 2, Right: 5}, api.And{Lit: 10, Left: 2, Right: 5}), bad(9, api.And{Lit: 8, Left: 2, Right: 5})},
		{"the same literals in the other order", bad(10, api.And{Lit: 8, Left: 2, Right: 5}, api.And{Lit: 10, Left: 5, Right: 2}), bad(8, api.And{Lit: 8, Left: 2, Right: 5})},
		{"the same variables, one not", bad(12, api.And{Lit: 8, Left: 2, Right: 5}, api.And{Lit: 10, Left: 2, Right: 4}, api.And{Lit: 12, Left: 8, Right: 10}), bad(12, api.And{Lit: 8, Left: 2, Right: 5}, api.And{Lit: 10, Left: 2, Right: 4}, api.And{Lit: 12, Left: 8, Right: 10})},
		{"three of the same", bad(16, api.And{Lit: 8, Left: 2, Right: 5}, api.And{Lit: 10, Left: 5, Right: 2}, api.And{Lit: 12, Left: 2, Right: 5}, api.And{Lit: 14, Left: 12, Right: 10}, api.And{Lit: 16, Left: 14, Right: 6}), bad(16, api.And{Lit: 8, Left: 2, Right: 5}, api.And{Lit: 16, Left: 8, Right: 6})},
		{"the same, as what stands for its literals is", bad(14, api.And{Lit: 8, Left: 2, Right: 2}, api.And{Lit: 10, Left: 4, Right: 6}, api.And{Lit: 12, Left: 8, Right: 10}, api.And{Lit: 14, Left: 10, Right: 2}), bad(12, api.And{Lit: 10, Left: 4, Right: 6}, api.And{Lit: 12, Left: 2, Right: 10})},
		{"what stands, not", bad(12, api.And{Lit: 8, Left: 5, Right: 5}, api.And{Lit: 10, Left: 9, Right: 9}, api.And{Lit: 12, Left: 11, Right: 3}), bad(12, api.And{Lit: 12, Left: 5, Right: 3})},
		{"a chain that becomes plain", bad(14, api.And{Lit: 8, Left: 2, Right: 4}, api.And{Lit: 10, Left: 4, Right: 2}, api.And{Lit: 12, Left: 8, Right: 11}, api.And{Lit: 14, Left: 6, Right: 12}), bad(0)},
		{"a chain that becomes one of its inputs", bad(15, api.And{Lit: 8, Left: 2, Right: 3}, api.And{Lit: 10, Left: 9, Right: 4}, api.And{Lit: 12, Left: 10, Right: 4}, api.And{Lit: 14, Left: 12, Right: 13}), bad(1)},
		{"a chain that becomes 1", bad(17, api.And{Lit: 8, Left: 2, Right: 3}, api.And{Lit: 10, Left: 9, Right: 9}, api.And{Lit: 12, Left: 10, Right: 9}, api.And{Lit: 16, Left: 12, Right: 11}), bad(1)},
		{"what nothing hangs on", bad(8, api.And{Lit: 8, Left: 2, Right: 5}, api.And{Lit: 10, Left: 8, Right: 6}, api.And{Lit: 12, Left: 10, Right: 8}), bad(8, api.And{Lit: 8, Left: 2, Right: 5})},
		{"what nothing hangs on, of nothing told", bad(2, api.And{Lit: 8, Left: 2, Right: 5}, api.And{Lit: 10, Left: 8, Right: 6}), bad(2)},
		{"what hangs on what has become plain", bad(14, api.And{Lit: 8, Left: 2, Right: 5}, api.And{Lit: 10, Left: 8, Right: 6}, api.And{Lit: 14, Left: 10, Right: 0}), bad(0)},
		{"ands ahead of all inputs", api.Circuit{Max: 4, Inputs: []int{8}, Outputs: []int{6}, Ands: []api.And{{Lit: 2, Left: 1, Right: 1}, {Lit: 4, Left: 2, Right: 2}, {Lit: 6, Left: 3, Right: 4}}}, api.Circuit{Max: 4, Inputs: []int{8}, Outputs: []int{0}}},
		{"the sample", sample(), sampleHashed()},
	}
}

func TestHash(t *testing.T) {
	for _, x := range cases() {
		if got, e := strash.Hash(x.c); e != api.OK || !circuit.Same(got, x.want) {
			t.Errorf("P6.1: Hash of %s = %v, %d, want %v", x.name, got, e, x.want)
		}
		if got, e := strash.Hash(x.want); e != api.OK || !circuit.Same(got, x.want) {
			t.Errorf("P6.2: Hash of %s, hashed, = %v, %d, want %v", x.name, got, e, x.want)
		}
	}
}

// Each place where something is told keeps what it hangs on, on and on, and gets what stands for it.
func TestHashOfEachPlaceTold(t *testing.T) {
	ands := []api.And{{Lit: 8, Left: 2, Right: 4}, {Lit: 10, Left: 8, Right: 7}, {Lit: 12, Left: 4, Right: 2}, {Lit: 14, Left: 12, Right: 7}, {Lit: 16, Left: 8, Right: 6}}
	for _, tell := range []func(c *api.Circuit, l int){
		func(c *api.Circuit, l int) { c.Latches[0].Next = l },
		func(c *api.Circuit, l int) { c.Latches[1].Next = l },
		func(c *api.Circuit, l int) { c.Outputs = []int{0, l} },
		func(c *api.Circuit, l int) { c.Bads = []int{0, l} },
		func(c *api.Circuit, l int) { c.Invars = []int{0, l} },
	} {
		with := func(l int, ands []api.And) api.Circuit {
			c := api.Circuit{Max: 9, Inputs: []int{2, 4}, Latches: []api.Latch{{Lit: 6, Next: 6}, {Lit: 18, Next: 2, Reset: 1}}, Ands: ands}
			tell(&c, l)
			return c
		}
		if got, e := strash.Hash(with(15, ands)); e != api.OK || !circuit.Same(got, with(11, ands[:2])) {
			t.Errorf("P6.1: Hash(%v) = %v, %d, want %v", with(15, ands), got, e, with(11, ands[:2]))
		}
		if got, e := strash.Hash(with(5, ands)); e != api.OK || !circuit.Same(got, with(5, nil)) {
			t.Errorf("P6.1: Hash(%v) = %v, %d, want no ands", with(5, ands), got, e)
		}
	}
}

// mayNot lists circuits that may not be.
func mayNot() []api.Circuit {
	list := []api.Circuit{
		{Max: -1}, {Max: api.MaxVar + 1}, {Max: math.MinInt}, {Max: math.MaxInt},
		{Inputs: []int{2}}, {Max: 1, Inputs: []int{3}}, {Max: 1, Inputs: []int{-2}}, {Max: 2, Inputs: []int{2, 2}}, {Max: 1, Inputs: []int{math.MaxInt - 1}},
		{Outputs: []int{2}}, {Bads: []int{-1}}, {Invars: []int{math.MaxInt}}, {Outputs: make([]int, api.MaxPins+1)},
		{Max: 1, Latches: []api.Latch{{Lit: 2, Next: 4}}}, {Max: 1, Latches: []api.Latch{{Lit: 2, Next: 2, Reset: 3}}},
		{Max: 1, Ands: []api.And{{Lit: 2, Left: 2, Right: 2}}}, {Max: 1, Ands: []api.And{{Lit: 2, Left: 1, Right: -1}}}, {Max: 1, Ands: []api.And{{Lit: 2, Left: math.MinInt, Right: math.MaxInt}}},
		{Max: 2, Ands: []api.And{{Lit: 4}, {Lit: 2}}}, {Max: 2, Ands: []api.And{{Lit: 2}, {Lit: 2}}}, {Max: 3, Ands: []api.And{{Lit: 6, Left: 4, Right: 4}}},
		{Max: 2, Ands: []api.And{{Lit: 2, Left: 4, Right: 4}, {Lit: 4, Left: 2, Right: 2}}},
		{Names: []api.Name{{Kind: "o", At: 0, Text: "x"}}},
	}
	for _, name := range []api.Name{{Kind: "o", Text: "a b"}, {Kind: "o"}, {Kind: "", Text: "x"}, {Kind: "o", At: 1, Text: "x"}, {Kind: "o", Text: strings.Repeat("x", api.MaxName+1)}} {
		list = append(list, api.Circuit{Outputs: []int{0}, Names: []api.Name{name}})
	}
	return list
}

func TestHashOfWhatMayNotBe(t *testing.T) {
	for _, c := range mayNot() {
		if got, e := strash.Hash(c); e != circuit.Check(c) || e != api.ErrState || !reflect.DeepEqual(got, api.Circuit{}) {
			t.Errorf("P6.1: Hash(%v) = %v, %d, want ErrState and nothing", c, got, e)
		}
	}
}

func TestSize(t *testing.T) {
	for _, x := range []struct {
		c    api.Circuit
		want int
	}{
		{api.Circuit{}, 0}, {api.Circuit{Ands: []api.And{}}, 0}, {sample(), 9}, {sampleHashed(), 2}, {bad(2, api.And{Lit: 8}), 1},
		// Ands are counted of circuits that may not be, too.
		{api.Circuit{Ands: make([]api.And, 3)}, 3}, {api.Circuit{Max: -7, Inputs: []int{9, 9}, Ands: []api.And{{Lit: -1, Left: 5, Right: math.MaxInt}}}, 1}, {api.Circuit{Ands: make([]api.And, 2*api.MaxVar)}, 2 * api.MaxVar},
	} {
		if got := strash.Size(x.c); got != x.want {
			t.Errorf("P6.1: Size(%v) = %d, want %d", x.c, got, x.want)
		}
	}
}

// chance makes numbers, one after the other, always the same ones.
type chance uint64

func (r *chance) below(n int) int {
	*r = *r*6364136223846793005 + 1442695040888963407
	return int(uint64(*r)>>33) % n
}

// drawn is a circuit of two inputs and two latches, of up to so many ands, its variables in some order and with gaps.
func drawn(r *chance, most int) api.Circuit {
	c := api.Circuit{Max: 2*most + 8}
	named := []int{0}
	pins := 0
	for v := 1; v <= c.Max; v++ {
		left := c.Max - v
		switch at := r.below(6); {
		case pins < 4 && (at == 0 || left < 4-pins):
			if pins%2 == 0 {
				c.Inputs = append(c.Inputs, 2*v)
			} else {
				c.Latches = append(c.Latches, api.Latch{Lit: 2 * v, Reset: []int{0, 1, 2 * v}[r.below(3)]})
			}
			pins++
		case at < 4 && len(c.Ands) < most:
			pick := func() int { return 2*named[len(named)-1-r.below(min(len(named), 6))] + r.below(2) }
			c.Ands = append(c.Ands, api.And{Lit: 2 * v, Left: pick(), Right: pick()})
		default:
			continue
		}
		named = append(named, v)
	}
	pick := func() int { return 2*named[r.below(len(named))] + r.below(2) }
	for i := range c.Latches {
		c.Latches[i].Next = pick()
	}
	for range r.below(3) {
		c.Outputs = append(c.Outputs, pick())
		c.Bads = append(c.Bads, pick())
		c.Invars = append(c.Invars, pick())
		c.Bads = append(c.Bads, pick())
	}
	return c
}

// meaning tells the outputs, bads, invars and next states of a circuit with two inputs and two latches, for each state and input.
func meaning(c api.Circuit) string {
	var told strings.Builder
	for bits := range 16 {
		value := make([]int, 2*c.Max+2)
		set := func(l, b int) { value[l], value[l+1] = b, 1-b }
		value[1] = 1
		set(c.Inputs[0], bits&1)
		set(c.Inputs[1], bits>>1&1)
		set(c.Latches[0].Lit, bits>>2&1)
		set(c.Latches[1].Lit, bits>>3)
		for _, and := range c.Ands {
			set(and.Lit, value[and.Left]&value[and.Right])
		}
		for _, list := range [][]int{c.Outputs, c.Bads, c.Invars, {c.Latches[0].Next, c.Latches[1].Next}} {
			for _, l := range list {
				told.WriteString(strconv.Itoa(value[l]))
			}
		}
	}
	return told.String()
}

// rehashed is the circuit, hashed by going over all its ands until nothing is left to do.
func rehashed(c api.Circuit) api.Circuit {
	c = circuit.Copy(c)
	replace := func(from, to int) {
		swap := func(l *int) {
			if *l/2 == from/2 {
				*l = to ^ *l&1
			}
		}
		for i := range c.Ands {
			swap(&c.Ands[i].Left)
			swap(&c.Ands[i].Right)
		}
		for i := range c.Latches {
			swap(&c.Latches[i].Next)
		}
		for _, l := range [][]int{c.Outputs, c.Bads, c.Invars} {
			for i := range l {
				swap(&l[i])
			}
		}
	}
	for at := 0; at < len(c.Ands); {
		and := c.Ands[at]
		to := -1
		switch {
		case and.Left == 0 || and.Right == 0 || and.Left^and.Right == 1:
			to = 0
		case and.Left == 1 || and.Left == and.Right:
			to = and.Right
		case and.Right == 1:
			to = and.Left
		}
		for _, ahead := range c.Ands[:at] {
			if to < 0 && (ahead.Left == and.Left && ahead.Right == and.Right || ahead.Left == and.Right && ahead.Right == and.Left) {
				to = ahead.Lit
			}
		}
		if to < 0 {
			at++
			continue
		}
		c.Ands = slices.Delete(c.Ands, at, at+1)
		replace(and.Lit, to)
	}
	// From the last one on: nothing hangs on an and but what is told, and the ands behind it that were kept.
	for at := len(c.Ands) - 1; at >= 0; at-- {
		of := func(l int) bool { return l/2 == c.Ands[at].Lit/2 }
		kept := slices.ContainsFunc(slices.Concat(c.Outputs, c.Bads, c.Invars), of) ||
			slices.ContainsFunc(c.Latches, func(latch api.Latch) bool { return of(latch.Next) }) ||
			slices.ContainsFunc(c.Ands[at+1:], func(and api.And) bool { return of(and.Left) || of(and.Right) })
		if !kept {
			c.Ands = slices.Delete(c.Ands, at, at+1)
		}
	}
	return c
}

// P6.2: a drawn circuit does what it did, has no more ands, and stays when it is hashed again.
func TestHashOfDrawn(t *testing.T) {
	r := chance(1)
	fewer := 0
	for n := range 4000 {
		c := drawn(&r, 1+n%20)
		got, e := strash.Hash(c)
		if e != api.OK || circuit.Check(got) != api.OK {
			t.Fatalf("P6.1: Hash(%v) = %v, %d", c, got, e)
		}
		if want := rehashed(c); !circuit.Same(got, want) {
			t.Fatalf("P6.1: Hash(%v) = %v, want %v", c, got, want)
		}
		if meaning(c) != meaning(got) {
			t.Fatalf("P6.2: Hash(%v) = %v, which does something other", c, got)
		}
		if strash.Size(got) > strash.Size(c) {
			t.Fatalf("P6.2: Hash(%v) = %v has more ands", c, got)
		}
		if strash.Size(got) < strash.Size(c) && strash.Size(got) > 0 {
			fewer++
		}
		if again, e := strash.Hash(got); e != api.OK || !circuit.Same(again, got) {
			t.Fatalf("P6.2: Hash(%v) = %v, %d", got, again, e)
		}
	}
	if fewer < 1000 {
		t.Errorf("there are %d circuits with fewer ands", fewer)
	}
}

// greatest is a circuit with as much of everything as there may be; each and is there twice, or is of those that are.
func greatest() api.Circuit {
	c := api.Circuit{Max: api.MaxVar}
	for n := range api.MaxPins {
		c.Inputs = append(c.Inputs, 2*n+2)
		lit := 2*api.MaxPins + 2*n + 2
		c.Latches = append(c.Latches, api.Latch{Lit: lit, Next: 2*api.MaxVar - n, Reset: []int{0, 1, lit}[n%3]})
		c.Outputs = append(c.Outputs, 2*api.MaxVar+1-n)
		c.Bads = append(c.Bads, 2*api.MaxVar-2*n)
		c.Invars = append(c.Invars, 2*api.MaxVar+1)
	}
	first := 4*api.MaxPins + 2
	for l := first; l <= 2*api.MaxVar; l += 4 {
		c.Ands = append(c.Ands, api.And{Lit: l, Left: l - 1, Right: l - 5}, api.And{Lit: l + 2, Left: l - 5, Right: l - 1})
	}
	for _, kind := range []string{"i", "l", "o", "b", "c"} {
		for n := range api.MaxPins {
			c.Names = append(c.Names, api.Name{Kind: kind, At: n, Text: strings.Repeat(string(rune('!'+n)), api.MaxName)})
		}
	}
	return c
}

func TestHashOfTheGreatest(t *testing.T) {
	c := greatest()
	got, e := strash.Hash(c)
	if want := rehashed(c); e != api.OK || !circuit.Same(got, want) || strash.Size(got) != (api.MaxVar-2*api.MaxPins)/2 {
		t.Errorf("P6.1: Hash of the greatest circuit = %d ands, %d, want %d", strash.Size(got), e, strash.Size(want))
	}
}

// whole is a list up to its capacity.
func whole[T any](l []T) []T {
	return l[:cap(l)]
}

// spoil writes over all that a circuit's lists hold, up to their capacities.
func spoil(c api.Circuit) {
	for _, l := range [][]int{c.Inputs, c.Outputs, c.Bads, c.Invars} {
		for i := range whole(l) {
			whole(l)[i] = 77
		}
	}
	for i := range whole(c.Latches) {
		whole(c.Latches)[i] = api.Latch{Lit: 77, Next: 77, Reset: 77}
	}
	for i := range whole(c.Ands) {
		whole(c.Ands)[i] = api.And{Lit: 77, Left: 77, Right: 77}
	}
	for i := range whole(c.Names) {
		whole(c.Names)[i] = api.Name{Kind: "spoilt", At: 77, Text: "spoilt"}
	}
}

func TestHashAnswersNewMemory(t *testing.T) {
	for _, x := range []struct{ c, want api.Circuit }{{sample(), sampleHashed()}, {sampleHashed(), sampleHashed()}} {
		c, kept := x.c, circuit.Copy(x.c)
		first, _ := strash.Hash(c)
		second, _ := strash.Hash(c)
		spoil(first)
		third, _ := strash.Hash(c)
		if !reflect.DeepEqual(c, kept) || !circuit.Same(second, x.want) || !circuit.Same(third, x.want) {
			t.Errorf("P6.3: Hash's answer shares memory: %v, %v, %v", c, second, third)
		}
		if spoil(c); !circuit.Same(second, x.want) {
			t.Errorf("P6.3: Hash's answer shares memory with what was handed in: %v", second)
		}
	}
}

// No list of an answer reaches into another one of it.
func TestListsAreApart(t *testing.T) {
	for i, spoilOne := range []func(c api.Circuit){
		func(c api.Circuit) { spoil(api.Circuit{Inputs: c.Inputs}) },
		func(c api.Circuit) { spoil(api.Circuit{Outputs: c.Outputs}) },
		func(c api.Circuit) { spoil(api.Circuit{Bads: c.Bads}) },
		func(c api.Circuit) { spoil(api.Circuit{Invars: c.Invars}) },
	} {
		c, _ := strash.Hash(sample())
		kept := sampleHashed()
		spoilOne(c)
		lists := [][]int{c.Inputs, c.Outputs, c.Bads, c.Invars}
		for j, want := range [][]int{kept.Inputs, kept.Outputs, kept.Bads, kept.Invars} {
			if i != j && !slices.Equal(lists[j], want) {
				t.Errorf("P6.3: two lists of an answer share memory: %v", c)
			}
		}
	}
}

// within tells whether the text lies in the memory of the other one.
func within(s, other string) bool {
	at := uintptr(unsafe.Pointer(unsafe.StringData(s)))
	first := uintptr(unsafe.Pointer(unsafe.StringData(other)))
	return first <= at && at < first+uintptr(len(other))
}

func TestTextsAreNewMemory(t *testing.T) {
	c := sample()
	d, _ := strash.Hash(c)
	for i, name := range d.Names {
		if within(name.Text, c.Names[i].Text) {
			t.Errorf("P6.3: the name %v lies in the circuit that was handed in", name)
		}
	}
}

func TestCallsLeaveTheirCircuits(t *testing.T) {
	all := func() []api.Circuit {
		list := append(mayNot(), greatest())
		for _, x := range cases() {
			list = append(list, x.c)
		}
		return list
	}
	for i, c := range all() {
		strash.Hash(c)
		strash.Size(c)
		if kept := all()[i]; !reflect.DeepEqual(c, kept) {
			t.Errorf("P6.3: %v was changed to %v", kept, c)
		}
	}
}

// Nil and empty lists are one.
func TestEmptyLists(t *testing.T) {
	empty := api.Circuit{Inputs: []int{}, Latches: []api.Latch{}, Outputs: []int{}, Bads: []int{}, Invars: []int{}, Ands: []api.And{}, Names: []api.Name{}}
	if got, e := strash.Hash(empty); !circuit.Same(got, api.Circuit{}) || e != api.OK || strash.Size(empty) != 0 {
		t.Errorf("P5: Hash of empty lists = %v, %d", got, e)
	}
}

// P3: the answers hang on the arguments, however many ask at a time.
func TestSameAnswers(t *testing.T) {
	shared := greatest()
	want, _ := strash.Hash(shared)
	var asked sync.WaitGroup
	for range 8 {
		asked.Add(1)
		go func() {
			defer asked.Done()
			for range 10 {
				if got, e := strash.Hash(shared); !reflect.DeepEqual(got, want) || e != api.OK {
					t.Errorf("P3: Hash of the greatest circuit = %d ands, %d", strash.Size(got), e)
				}
			}
		}()
	}
	asked.Wait()
}
