package aig_test

import (
	"bytes"
	"math"
	"reflect"
	"slices"
	"strconv"
	"strings"
	"sync"
	"testing"
	"unsafe"

	"interlock/aag"
	"interlock/aig"
	"interlock/api"
	"interlock/circuit"
)

// sample is a circuit in order with something of everything.
func sample() api.Circuit {
	return api.Circuit{
		Max:     7,
		Inputs:  []int{2, 4},
		Latches: []api.Latch{{Lit: 6, Next: 15}, {Lit: 8, Next: 8, Reset: 8}, {Lit: 10, Next: 1, Reset: 1}},
		Outputs: []int{15},
		Bads:    []int{14, 1, 0, 5},
		Invars:  []int{5, 12, 1, 1, 13},
		Ands:    []api.And{{Lit: 12, Left: 7, Right: 2}, {Lit: 14, Left: 13, Right: 13}},
		Names: []api.Name{
			{Kind: "i", At: 0, Text: "request"}, {Kind: "i", At: 1, Text: "!"},
			{Kind: "l", At: 2, Text: "~"}, {Kind: "o", At: 0, Text: "c"},
			{Kind: "b", At: 3, Text: "never"}, {Kind: "c", At: 0, Text: "0"}, {Kind: "c", At: 4, Text: "c4"},
		},
	}
}

// The sample's octets: its lines ahead of the ands', the ands', and the names' lines.
const (
	sampleLines = "aig 7 2 3 1 2 4 5\n15\n8 8\n1 1\n15\n14\n1\n0\n5\n5\n12\n1\n1\n13\n"
	sampleAnds  = "\x05\x05\x01\x00"
	sampleNames = "i0 request\ni1 !\nl2 ~\no0 c\nb3 never\nc0 0\nc4 c4\n"
	sampleAll   = sampleLines + sampleAnds + sampleNames
)

// mixed is the sample with its variables numbered otherwise, and with some that are nothing.
func mixed() api.Circuit {
	c := sample()
	c.Max = 20
	c.Inputs = []int{8, 4}
	c.Latches = []api.Latch{{Lit: 40, Next: 31}, {Lit: 2, Next: 2, Reset: 2}, {Lit: 32, Next: 1, Reset: 1}}
	c.Outputs = []int{31}
	c.Bads = []int{30, 1, 0, 5}
	c.Invars = []int{5, 28, 1, 1, 29}
	c.Ands = []api.And{{Lit: 28, Left: 8, Right: 3}, {Lit: 30, Left: 29, Right: 29}}
	return c
}

// mixedOrdered is what mixed is in order.
func mixedOrdered() api.Circuit {
	c := sample()
	c.Ands[0] = api.And{Lit: 12, Left: 9, Right: 2}
	return c
}

// greatest is a circuit in order with as much of everything as there may be: each and's numbers are as great as Max allows, or of the edge between one group and two.
func greatest() api.Circuit {
	c := api.Circuit{Max: api.MaxVar}
	for n := range api.MaxPins {
		c.Inputs = append(c.Inputs, 2*n+2)
		lit := 2*api.MaxPins + 2*n + 2
		c.Latches = append(c.Latches, api.Latch{Lit: lit, Next: 2*api.MaxVar - n, Reset: []int{0, 1, lit}[n%3]})
		c.Outputs = append(c.Outputs, 2*api.MaxVar+1-n)
		c.Bads = append(c.Bads, 2*api.MaxVar-2*n)
		c.Invars = append(c.Invars, 2*api.MaxVar+1)
	}
	for l := 4*api.MaxPins + 2; l <= 2*api.MaxVar; l += 2 {
		edges := []api.And{{Left: l - 1, Right: 0}, {Left: l - 127, Right: l - 127}, {Left: l - 128, Right: l - 255}, {Left: l - 129, Right: l - 257}, {Left: 1, Right: 0}, {Left: 0, Right: 0}}
		and := edges[l/2%len(edges)]
		and.Right = max(and.Right, 0)
		c.Ands = append(c.Ands, api.And{Lit: l, Left: and.Left, Right: and.Right})
	}
	for _, kind := range []string{"i", "l", "o", "b", "c"} {
		for n := range api.MaxPins {
			c.Names = append(c.Names, api.Name{Kind: kind, At: n, Text: strings.Repeat(string(rune('!'+n)), api.MaxName)})
		}
	}
	return c
}

// bare is a circuit with more variables than gates: one and, of the last of them.
func bare(n int) api.Circuit {
	return api.Circuit{Max: n, Ands: []api.And{{Lit: 2 * n, Left: 0, Right: 1}}}
}

// groups are those of a number, told without the program.
func groups(n int) []byte {
	var octets []byte
	for n > 127 {
		octets = append(octets, byte(n&127|128))
		n >>= 7
	}
	return append(octets, byte(n))
}

// octetsOf makes the octets of a circuit in order out of its text.
func octetsOf(t *testing.T, c api.Circuit) string {
	t.Helper()
	text, e := aag.Print(c)
	if e != api.OK {
		t.Fatalf("there is no text of %v", c)
	}
	lines := strings.SplitAfter(text, "\n")
	octets := strings.Replace(lines[0], "aag", "aig", 1)
	at := 1 + len(c.Inputs)
	for range c.Latches {
		_, next, _ := strings.Cut(lines[at], " ")
		octets += next
		at++
	}
	for range len(c.Outputs) + len(c.Bads) + len(c.Invars) {
		octets += lines[at]
		at++
	}
	for _, and := range c.Ands {
		greater, smaller := max(and.Left, and.Right), min(and.Left, and.Right)
		octets += string(groups(and.Lit-greater)) + string(groups(greater-smaller))
		at++
	}
	return octets + strings.Join(lines[at:], "")
}

// ordered lists circuits that are ordered, each with something other, and their octets.
func ordered() []struct {
	c      api.Circuit
	octets string
} {
	return []struct {
		c      api.Circuit
		octets string
	}{
		{api.Circuit{}, "aig 0 0 0 0 0 0 0\n"},
		{api.Circuit{Max: 1, Inputs: []int{2}}, "aig 1 1 0 0 0 0 0\n"},
		{api.Circuit{Max: 1, Latches: []api.Latch{{Lit: 2, Next: 2}}}, "aig 1 0 1 0 0 0 0\n2\n"},
		{api.Circuit{Max: 1, Latches: []api.Latch{{Lit: 2, Next: 3, Reset: 1}}}, "aig 1 0 1 0 0 0 0\n3 1\n"},
		{api.Circuit{Max: 1, Latches: []api.Latch{{Lit: 2, Next: 0, Reset: 2}}}, "aig 1 0 1 0 0 0 0\n0 2\n"},
		{api.Circuit{Max: 2, Inputs: []int{2}, Latches: []api.Latch{{Lit: 4, Next: 3, Reset: 4}}}, "aig 2 1 1 0 0 0 0\n3 4\n"},
		{api.Circuit{Outputs: []int{1}}, "aig 0 0 0 1 0 0 0\n1\n"},
		{api.Circuit{Bads: []int{1}}, "aig 0 0 0 0 0 1 0\n1\n"},
		{api.Circuit{Invars: []int{0}}, "aig 0 0 0 0 0 0 1\n0\n"},
		{api.Circuit{Max: 1, Ands: []api.And{{Lit: 2, Left: 1, Right: 0}}}, "aig 1 0 0 0 1 0 0\n\x01\x01"},
		{api.Circuit{Max: 1, Ands: []api.And{{Lit: 2, Left: 0, Right: 0}}}, "aig 1 0 0 0 1 0 0\n\x02\x00"},
		{api.Circuit{Max: 2, Inputs: []int{2}, Ands: []api.And{{Lit: 4, Left: 3, Right: 2}}}, "aig 2 1 0 0 1 0 0\n\x01\x01"},
		{api.Circuit{Max: 3, Inputs: []int{2, 4}, Outputs: []int{7}, Ands: []api.And{{Lit: 6, Left: 4, Right: 2}}}, "aig 3 2 0 1 1 0 0\n7\n\x02\x02"},
		{api.Circuit{Outputs: []int{0, 0}, Invars: []int{1}, Names: []api.Name{{Kind: "o", At: 1, Text: "c"}, {Kind: "c", At: 0, Text: "c"}}}, "aig 0 0 0 2 0 0 1\n0\n0\n1\no1 c\nc0 c\n"},
		{sample(), sampleAll},
	}
}

// askew lists circuits that may be and are not ordered, and what they are in order.
func askew() []struct{ c, want api.Circuit } {
	return []struct{ c, want api.Circuit }{
		// Max is more than the last one.
		{api.Circuit{Max: 1}, api.Circuit{}},
		{api.Circuit{Max: api.MaxVar}, api.Circuit{}},
		{api.Circuit{Max: 2, Inputs: []int{2}}, api.Circuit{Max: 1, Inputs: []int{2}}},
		// A variable is left out.
		{api.Circuit{Max: 2, Inputs: []int{4}}, api.Circuit{Max: 1, Inputs: []int{2}}},
		{api.Circuit{Max: 3, Inputs: []int{2, 6}, Outputs: []int{7, 2}}, api.Circuit{Max: 2, Inputs: []int{2, 4}, Outputs: []int{5, 2}}},
		{api.Circuit{Max: api.MaxVar, Latches: []api.Latch{{Lit: 2 * api.MaxVar, Next: 2*api.MaxVar + 1, Reset: 2 * api.MaxVar}}}, api.Circuit{Max: 1, Latches: []api.Latch{{Lit: 2, Next: 3, Reset: 2}}}},
		{bare(api.MaxVar), api.Circuit{Max: 1, Ands: []api.And{{Lit: 2, Left: 1, Right: 0}}}},
		// Inputs, and latches, fall.
		{api.Circuit{Max: 2, Inputs: []int{4, 2}, Bads: []int{2, 5}}, api.Circuit{Max: 2, Inputs: []int{2, 4}, Bads: []int{4, 3}}},
		{api.Circuit{Max: 2, Latches: []api.Latch{{Lit: 4, Next: 2}, {Lit: 2, Next: 5, Reset: 2}}}, api.Circuit{Max: 2, Latches: []api.Latch{{Lit: 2, Next: 4}, {Lit: 4, Next: 3, Reset: 4}}}},
		// A latch ahead of an input, an and ahead of a latch, an and ahead of an input.
		{api.Circuit{Max: 2, Inputs: []int{4}, Latches: []api.Latch{{Lit: 2, Next: 4, Reset: 1}}}, api.Circuit{Max: 2, Inputs: []int{2}, Latches: []api.Latch{{Lit: 4, Next: 2, Reset: 1}}}},
		{api.Circuit{Max: 2, Latches: []api.Latch{{Lit: 4, Next: 3}}, Ands: []api.And{{Lit: 2, Left: 1, Right: 1}}}, api.Circuit{Max: 2, Latches: []api.Latch{{Lit: 2, Next: 5}}, Ands: []api.And{{Lit: 4, Left: 1, Right: 1}}}},
		{api.Circuit{Max: 2, Inputs: []int{4}, Invars: []int{5, 2}, Ands: []api.And{{Lit: 2, Left: 1, Right: 1}}}, api.Circuit{Max: 2, Inputs: []int{2}, Invars: []int{3, 4}, Ands: []api.And{{Lit: 4, Left: 1, Right: 1}}}},
		// In order, but Left below Right.
		{api.Circuit{Max: 2, Inputs: []int{2}, Ands: []api.And{{Lit: 4, Left: 2, Right: 3}}}, api.Circuit{Max: 2, Inputs: []int{2}, Ands: []api.And{{Lit: 4, Left: 3, Right: 2}}}},
		{api.Circuit{Max: 1, Ands: []api.And{{Lit: 2, Left: 0, Right: 1}}}, api.Circuit{Max: 1, Ands: []api.And{{Lit: 2, Left: 1, Right: 0}}}},
		// Left is above its Right, and below it in order; and the other way round.
		{api.Circuit{Max: 3, Inputs: []int{4, 2}, Ands: []api.And{{Lit: 6, Left: 5, Right: 2}}}, api.Circuit{Max: 3, Inputs: []int{2, 4}, Ands: []api.And{{Lit: 6, Left: 4, Right: 3}}}},
		{api.Circuit{Max: 3, Inputs: []int{4, 2}, Ands: []api.And{{Lit: 6, Left: 2, Right: 4}}}, api.Circuit{Max: 3, Inputs: []int{2, 4}, Ands: []api.And{{Lit: 6, Left: 4, Right: 2}}}},
		{api.Circuit{Max: 4, Inputs: []int{6}, Ands: []api.And{{Lit: 2, Left: 1, Right: 0}, {Lit: 8, Left: 6, Right: 3}}}, api.Circuit{Max: 3, Inputs: []int{2}, Ands: []api.And{{Lit: 4, Left: 1, Right: 0}, {Lit: 6, Left: 5, Right: 2}}}},
		{mixed(), mixedOrdered()},
	}
}

func TestOrdered(t *testing.T) {
	for _, x := range ordered() {
		if !aig.Ordered(x.c) {
			t.Errorf("P5.1: Ordered(%v) = false", x.c)
		}
	}
	if !aig.Ordered(greatest()) {
		t.Error("P5.1: Ordered of the greatest circuit = false")
	}
	for _, x := range askew() {
		if aig.Ordered(x.c) {
			t.Errorf("P5.1: Ordered(%v) = true", x.c)
		}
	}
	for _, c := range mayNot() {
		if aig.Ordered(c) {
			t.Errorf("P5.1: Ordered(%v) = true, and it may not be", c)
		}
	}
}

// One number of the sample is changed at a time: nothing but the order of its variables, and of its ands' literals, is asked for.
func TestOrderedOfTheSampleChanged(t *testing.T) {
	for _, x := range []struct {
		change func(c *api.Circuit)
		want   bool
	}{
		{func(c *api.Circuit) { c.Max = 8 }, false},
		{func(c *api.Circuit) { c.Max = 6 }, false},
		{func(c *api.Circuit) { slices.Reverse(c.Inputs) }, false},
		{func(c *api.Circuit) { c.Inputs = c.Inputs[:1] }, false},
		{func(c *api.Circuit) { c.Inputs[0], c.Latches[0].Lit = 6, 2 }, false},
		{func(c *api.Circuit) { c.Ands[0].Left, c.Ands[0].Right = 2, 7 }, false},
		{func(c *api.Circuit) { c.Ands[0].Left, c.Ands[0].Right = 6, 7 }, false},
		{func(c *api.Circuit) { c.Ands[0].Left, c.Ands[0].Right = 7, 6 }, true},
		{func(c *api.Circuit) { c.Ands[0].Left, c.Ands[0].Right = 7, 7 }, true},
		{func(c *api.Circuit) { c.Ands[0].Left, c.Ands[0].Right = 0, 0 }, true},
		{func(c *api.Circuit) { c.Ands[0].Right = -1 }, false},
		{func(c *api.Circuit) { c.Latches[0].Next = 0 }, true},
		{func(c *api.Circuit) { c.Latches[0].Reset = 1 }, true},
		{func(c *api.Circuit) { c.Latches[0].Reset = 8 }, false},
		{func(c *api.Circuit) { slices.Reverse(c.Bads) }, true},
		{func(c *api.Circuit) { slices.Reverse(c.Outputs) }, true},
		{func(c *api.Circuit) { c.Bads[0] = 16 }, false},
		{func(c *api.Circuit) { c.Names = nil }, true},
		{func(c *api.Circuit) { slices.Reverse(c.Names) }, false},
	} {
		c := sample()
		x.change(&c)
		if got := aig.Ordered(c); got != x.want {
			t.Errorf("P5.1: Ordered(%v) = %v", c, got)
		}
	}
}

func TestOrder(t *testing.T) {
	for _, x := range askew() {
		if got, e := aig.Order(x.c); e != api.OK || !circuit.Same(got, x.want) {
			t.Errorf("P5.1: Order(%v) = %v, %d, want %v", x.c, got, e, x.want)
		}
	}
	for _, x := range ordered() {
		if got, e := aig.Order(x.c); e != api.OK || !circuit.Same(got, x.c) {
			t.Errorf("P5.1: Order(%v) = %v, %d", x.c, got, e)
		}
	}
	if got, e := aig.Order(greatest()); e != api.OK || !circuit.Same(got, greatest()) {
		t.Errorf("P5.1: Order of the greatest circuit = %v, %d", got, e)
	}
}

// mayNot lists circuits that may not be.
func mayNot() []api.Circuit {
	list := []api.Circuit{
		{Max: -1}, {Max: api.MaxVar + 1}, {Max: math.MinInt}, {Max: math.MaxInt},
		{Inputs: []int{2}}, {Max: 1, Inputs: []int{3}}, {Max: 1, Inputs: []int{-2}}, {Max: 2, Inputs: []int{2, 2}}, {Max: 1, Inputs: []int{math.MaxInt - 1}},
		{Outputs: []int{2}}, {Bads: []int{-1}}, {Invars: []int{math.MaxInt}}, {Outputs: make([]int, api.MaxPins+1)},
		{Max: 1, Latches: []api.Latch{{Lit: 2, Next: 4}}}, {Max: 1, Latches: []api.Latch{{Lit: 2, Next: 2, Reset: 3}}},
		{Max: 1, Ands: []api.And{{Lit: 2, Left: 2, Right: 0}}}, {Max: 1, Ands: []api.And{{Lit: 2, Left: 1, Right: -1}}}, {Max: 1, Ands: []api.And{{Lit: 2, Left: math.MinInt, Right: math.MaxInt}}},
		{Max: 2, Ands: []api.And{{Lit: 4}, {Lit: 2}}}, {Max: 2, Ands: []api.And{{Lit: 2}, {Lit: 2}}}, {Max: 3, Ands: []api.And{{Lit: 6, Left: 4}}},
		{Names: []api.Name{{Kind: "o", At: 0, Text: "x"}}},
	}
	pins := api.Circuit{Max: api.MaxPins + 1}
	for n := range pins.Max {
		pins.Inputs = append(pins.Inputs, 2*n+2)
	}
	list = append(list, pins)
	for _, name := range []api.Name{{Kind: "o", Text: "a b"}, {Kind: "o", Text: "a\nc"}, {Kind: "o"}, {Kind: "", Text: "x"}, {Kind: "ob", Text: "x"}, {Kind: "o", At: 1, Text: "x"}, {Kind: "o", At: -1, Text: "x"}, {Kind: "o", Text: strings.Repeat("x", api.MaxName+1)}, {Kind: "o", Text: "\xff"}} {
		list = append(list, api.Circuit{Outputs: []int{0}, Names: []api.Name{name}})
	}
	return list
}

func TestOrderOfWhatMayNotBe(t *testing.T) {
	for _, c := range mayNot() {
		if got, e := aig.Order(c); e != api.ErrState || !reflect.DeepEqual(got, api.Circuit{}) {
			t.Errorf("P5.1: Order(%v) = %v, %d, want ErrState and nothing", c, got, e)
		}
	}
}

// inOrder tells, without the program, whether a circuit that may be is ordered.
func inOrder(c api.Circuit) bool {
	var list []int
	list = append(list, c.Inputs...)
	for _, latch := range c.Latches {
		list = append(list, latch.Lit)
	}
	for _, and := range c.Ands {
		list = append(list, and.Lit)
		if and.Left < and.Right {
			return false
		}
	}
	for i, l := range list {
		if l != 2*i+2 {
			return false
		}
	}
	return len(list) == c.Max
}

// scattered are circuits of two inputs, two latches and two ands, at all places that the ands may have among the variables from 1 to 6.
func scattered(visit func(c api.Circuit)) {
	for first := 1; first <= 6; first++ {
		for second := first + 1; second <= 6; second++ {
			var rest []int
			for v := 6; v > 0; v-- {
				if v != first && v != second {
					rest = append(rest, 2*v)
				}
			}
			for turn := range len(rest) {
				p := append(slices.Clone(rest[turn:]), rest[:turn]...)
				slices.Reverse(p[:2+turn%3])
				for left := range 2 * first {
					visit(api.Circuit{
						Max: 6, Inputs: p[:2:2], Latches: []api.Latch{{Lit: p[2], Next: 2*second + 1, Reset: p[2]}, {Lit: p[3], Next: left, Reset: 1}},
						Outputs: []int{2 * first}, Bads: []int{2*second + 1}, Invars: []int{p[0] + 1, p[3]},
						Ands: []api.And{{Lit: 2 * first, Left: left, Right: 2*first - 1}, {Lit: 2 * second, Left: 2 * first, Right: 2*second - 1}},
					})
				}
			}
		}
	}
}

// meaning tells, step by step, the outputs, bads and invars of a circuit with two inputs and two latches, for each state and input.
func meaning(c api.Circuit) string {
	var told strings.Builder
	for bits := range 16 {
		value := make([]int, 2*c.Max+2)
		set := func(l, b int) { value[l], value[l+1] = b, 1-b }
		value[1] = 1
		set(c.Inputs[0], bits&1)
		set(c.Inputs[1], bits>>1&1)
		set(c.Latches[0].Lit, bits>>2&1)
		set(c.Latches[1].Lit, bits>>3)
		for _, and := range c.Ands {
			set(and.Lit, value[and.Left]&value[and.Right])
		}
		for _, list := range [][]int{c.Outputs, c.Bads, c.Invars, {c.Latches[0].Next, c.Latches[1].Next}} {
			for _, l := range list {
				told.WriteString(strconv.Itoa(value[l]))
			}
		}
	}
	return told.String()
}

// P5.1: what Order answers is in order, and is the same circuit but for its variables.
func TestOrderOfScattered(t *testing.T) {
	count := 0
	scattered(func(c api.Circuit) {
		count++
		if aig.Ordered(c) != inOrder(c) {
			t.Errorf("P5.1: Ordered(%v) = %v", c, aig.Ordered(c))
		}
		got, e := aig.Order(c)
		if e != api.OK || circuit.Check(got) != api.OK || !inOrder(got) || !aig.Ordered(got) {
			t.Errorf("P5.1: Order(%v) = %v, %d", c, got, e)
			return
		}
		if meaning(c) != meaning(got) {
			t.Errorf("P5.1: Order(%v) = %v, which is another one", c, got)
		}
		if again, e := aig.Order(got); e != api.OK || !circuit.Same(again, got) {
			t.Errorf("P5.1: Order(%v) = %v, %d", got, again, e)
		}
		octets, e := aig.Write(c)
		if inOrder(c) != (e == api.OK) || e != api.OK && (e != api.ErrOrder || octets != nil) {
			t.Errorf("P5.1: Write(%v) = %q, %d", c, octets, e)
		}
		comesBack(t, got)
	})
	if count < 100 {
		t.Errorf("there are %d circuits", count)
	}
}

func TestWrite(t *testing.T) {
	for _, x := range ordered() {
		if got, e := aig.Write(x.c); string(got) != x.octets || e != api.OK {
			t.Errorf("P5.1: Write(%v) = %q, %d, want %q", x.c, got, e, x.octets)
		}
	}
}

func TestWriteOfWhatIsNotOrdered(t *testing.T) {
	for _, x := range askew() {
		if got, e := aig.Write(x.c); len(got) != 0 || e != api.ErrOrder {
			t.Errorf("P5.1: Write(%v) = %q, %d, want ErrOrder", x.c, got, e)
		}
		comesBack(t, x.want)
	}
	for _, c := range mayNot() {
		if got, e := aig.Write(c); len(got) != 0 || e != api.ErrOrder {
			t.Errorf("P5.1: Write(%v) = %q, %d, want ErrOrder", c, got, e)
		}
	}
}

// counter is a circuit of an input and so many ands, the last of these of Left and Right.
func counter(n, left, right int) api.Circuit {
	c := api.Circuit{Max: n + 1, Inputs: []int{2}}
	for v := 2; v <= n+1; v++ {
		c.Ands = append(c.Ands, api.And{Lit: 2 * v, Left: 2*v - 1, Right: 2*v - 2})
	}
	c.Ands[n-1].Left, c.Ands[n-1].Right = left, right
	return c
}

// Numbers of one group and of two, and of each edge between.
func TestWriteGroups(t *testing.T) {
	for _, x := range []struct {
		left, right int
		want        string
	}{
		{4095, 4095, "\x01\x00"}, {4095, 4094, "\x01\x01"}, {4094, 4084, "\x02\x0a"}, {4086, 4086, "\x0a\x00"},
		{3969, 3842, "\x7f\x7f"}, {3968, 3840, "\x80\x01\x80\x01"}, {3967, 3838, "\x81\x01\x81\x01"}, {3841, 3841, "\xff\x01\x00"}, {3840, 3840, "\x80\x02\x00"},
		{4095, 0, "\x01\xff\x1f"}, {4095, 1, "\x01\xfe\x1f"}, {1, 0, "\xff\x1f\x01"}, {1, 1, "\xff\x1f\x00"}, {0, 0, "\x80\x20\x00"}, {2048, 0, "\x80\x10\x80\x10"},
	} {
		c := counter(api.MaxVar-1, x.left, x.right)
		head := "aig 2048 1 0 0 2047 0 0\n" + strings.Repeat("\x01\x01", api.MaxVar-2)
		if got, e := aig.Write(c); string(got) != head+x.want || e != api.OK {
			t.Errorf("P5.1: Write of an and of %d and %d ends with %q, %d, want %q", x.left, x.right, got[max(0, len(got)-8):], e, x.want)
		}
		comesBack(t, c)
	}
}

// comesBack tells whether a circuit comes back from its octets, and these are what its text says.
func comesBack(t *testing.T, c api.Circuit) {
	t.Helper()
	octets, e := aig.Write(c)
	if e != api.OK {
		t.Errorf("P5.2: Write(%v) = %d", c, e)
		return
	}
	if want := octetsOf(t, c); string(octets) != want {
		t.Errorf("P5.1: Write(%v) = %.200q, want %.200q", c, octets, want)
	}
	got, e := aig.Read(octets)
	if e != api.OK || !circuit.Same(got, c) {
		t.Errorf("P5.2: Read of the octets of %v = %v, %d", c, got, e)
	}
	if again, e := aig.Write(got); !bytes.Equal(again, octets) || e != api.OK {
		t.Errorf("P5.2: the octets %.200q come back as %.200q, %d", octets, again, e)
	}
}

func TestCircuitsComeBack(t *testing.T) {
	for _, x := range ordered() {
		comesBack(t, x.c)
	}
	comesBack(t, greatest())
	many := api.Circuit{Max: api.MaxPins}
	for n := range api.MaxPins {
		many.Inputs = append(many.Inputs, 2*n+2)
	}
	comesBack(t, many)
	for n := 1; n <= 300; n++ {
		comesBack(t, counter(n, 1, 0))
		comesBack(t, counter(n, 2, 0))
	}
}

// Every octet that a name's text may have, and every length.
func TestNamesComeBack(t *testing.T) {
	for b := byte(33); b <= 126; b++ {
		for n := 1; n <= api.MaxName; n++ {
			text := strings.Repeat(string(rune(b)), n)
			comesBack(t, api.Circuit{Max: 1, Invars: []int{1}, Ands: []api.And{{Lit: 2, Left: 0, Right: 0}}, Names: []api.Name{{Kind: "c", At: 0, Text: text}}})
		}
	}
}

// whole is a list up to its capacity.
func whole[T any](l []T) []T {
	return l[:cap(l)]
}

// spoil writes over all that a circuit's lists hold, up to their capacities.
func spoil(c api.Circuit) {
	for _, l := range [][]int{c.Inputs, c.Outputs, c.Bads, c.Invars} {
		for i := range whole(l) {
			whole(l)[i] = 77
		}
	}
	for i := range whole(c.Latches) {
		whole(c.Latches)[i] = api.Latch{Lit: 77, Next: 77, Reset: 77}
	}
	for i := range whole(c.Ands) {
		whole(c.Ands)[i] = api.And{Lit: 77, Left: 77, Right: 77}
	}
	for i := range whole(c.Names) {
		whole(c.Names)[i] = api.Name{Kind: "spoilt", At: 77, Text: "spoilt"}
	}
}

func TestOrderAnswersNewMemory(t *testing.T) {
	c, kept := sample(), sample()
	first, _ := aig.Order(c)
	second, _ := aig.Order(c)
	spoil(first)
	third, _ := aig.Order(c)
	if !reflect.DeepEqual(c, kept) || !circuit.Same(second, kept) || !circuit.Same(third, kept) {
		t.Errorf("P5.3: Order's answer shares memory: %v, %v, %v", c, second, third)
	}
	if spoil(c); !circuit.Same(second, kept) {
		t.Errorf("P5.3: Order's answer shares memory with what was handed in: %v", second)
	}
}

func TestReadAnswersNewMemory(t *testing.T) {
	octets := []byte(sampleAll)
	first, _ := aig.Read(octets)
	second, _ := aig.Read(octets)
	spoil(first)
	third, _ := aig.Read(octets)
	if !circuit.Same(second, sample()) || !circuit.Same(third, sample()) || string(octets) != sampleAll {
		t.Errorf("P5.3: two answers of Read share memory: %v, %v", second, third)
	}
	clear(octets)
	if !circuit.Same(second, sample()) {
		t.Errorf("P5.3: Read's answer shares memory with the octets: %v", second)
	}
}

func TestWriteAnswersNewMemory(t *testing.T) {
	c := sample()
	first, _ := aig.Write(c)
	second, _ := aig.Write(c)
	clear(whole(first))
	third, _ := aig.Write(c)
	if string(second) != sampleAll || string(third) != sampleAll || !reflect.DeepEqual(c, sample()) {
		t.Errorf("P5.3: two answers of Write share memory: %q, %q", second, third)
	}
}

// No list of an answer reaches into another one of it.
func TestListsAreApart(t *testing.T) {
	spoilers := []func(c api.Circuit){
		func(c api.Circuit) { spoil(api.Circuit{Inputs: c.Inputs}) },
		func(c api.Circuit) { spoil(api.Circuit{Outputs: c.Outputs}) },
		func(c api.Circuit) { spoil(api.Circuit{Bads: c.Bads}) },
		func(c api.Circuit) { spoil(api.Circuit{Invars: c.Invars}) },
	}
	answers := []func() api.Circuit{
		func() api.Circuit { c, _ := aig.Read([]byte(sampleAll)); return c },
		func() api.Circuit { c, _ := aig.Order(sample()); return c },
	}
	for i, spoilOne := range spoilers {
		for _, answer := range answers {
			c, kept := answer(), sample()
			spoilOne(c)
			lists := [][]int{c.Inputs, c.Outputs, c.Bads, c.Invars}
			for j, want := range [][]int{kept.Inputs, kept.Outputs, kept.Bads, kept.Invars} {
				if i != j && !slices.Equal(lists[j], want) {
					t.Errorf("P5.3: two lists of an answer share memory: %v", c)
				}
			}
		}
	}
}

// within tells whether the text lies in the memory of the other one.
func within(s string, begin *byte, length int) bool {
	at := uintptr(unsafe.Pointer(unsafe.StringData(s)))
	first := uintptr(unsafe.Pointer(begin))
	return first <= at && at < first+uintptr(length)
}

func TestTextsAreNewMemory(t *testing.T) {
	octets := []byte(sampleAll)
	c, _ := aig.Read(octets)
	for _, name := range c.Names {
		if within(name.Kind, &octets[0], len(octets)) || within(name.Text, &octets[0], len(octets)) {
			t.Errorf("P5.3: the name %v lies in the octets that were handed in", name)
		}
	}
	c = sample()
	d, _ := aig.Order(c)
	for i, name := range d.Names {
		text := c.Names[i].Text
		if within(name.Text, unsafe.StringData(text), len(text)) {
			t.Errorf("P5.3: the name %v lies in the circuit that was handed in", name)
		}
	}
}

func TestCallsLeaveTheirCircuits(t *testing.T) {
	all := func() []api.Circuit {
		list := append(mayNot(), sample(), greatest(), api.Circuit{})
		for _, x := range askew() {
			list = append(list, x.c)
		}
		return list
	}
	for i, c := range all() {
		aig.Ordered(c)
		aig.Order(c)
		aig.Write(c)
		if kept := all()[i]; !reflect.DeepEqual(c, kept) {
			t.Errorf("P5.3: %v was changed to %v", kept, c)
		}
	}
}

// Nil and empty lists are one.
func TestEmptyLists(t *testing.T) {
	empty := api.Circuit{Inputs: []int{}, Latches: []api.Latch{}, Outputs: []int{}, Bads: []int{}, Invars: []int{}, Ands: []api.And{}, Names: []api.Name{}}
	if got, e := aig.Write(empty); string(got) != "aig 0 0 0 0 0 0 0\n" || e != api.OK || !aig.Ordered(empty) {
		t.Errorf("P5: Write of empty lists = %q, %d", got, e)
	}
	if got, e := aig.Order(empty); !circuit.Same(got, api.Circuit{}) || e != api.OK {
		t.Errorf("P5: Order of empty lists = %v, %d", got, e)
	}
	for _, b := range [][]byte{nil, {}} {
		if got, e := aig.Read(b); e != api.ErrSyntax || !reflect.DeepEqual(got, api.Circuit{}) {
			t.Errorf("P5: Read of no octets = %v, %d", got, e)
		}
	}
}

// P3: the answers hang on the arguments, however many ask at a time.
func TestSameAnswers(t *testing.T) {
	shared := greatest()
	want, _ := aig.Write(shared)
	var asked sync.WaitGroup
	for range 8 {
		asked.Add(1)
		go func() {
			defer asked.Done()
			for range 10 {
				if got, e := aig.Write(shared); !bytes.Equal(got, want) || e != api.OK || !aig.Ordered(shared) {
					t.Errorf("P3: Write of the greatest circuit = %d octets, %d", len(got), e)
				}
				if got, e := aig.Read(want); !circuit.Same(got, shared) || e != api.OK {
					t.Errorf("P3: Read of the greatest circuit's octets = %d", e)
				}
				if got, e := aig.Order(mixed()); !circuit.Same(got, mixedOrdered()) || e != api.OK {
					t.Errorf("P3: Order(%v) = %v, %d", mixed(), got, e)
				}
			}
		}()
	}
	asked.Wait()
}
