package circuit_test

import (
	"math"
	"strings"
	"testing"

	"interlock/api"
	"interlock/circuit"
)

// sample is a circuit that may be, with something of everything; variable 3 is nothing, and Max is more than the last one.
func sample() api.Circuit {
	return api.Circuit{
		Max:     9,
		Inputs:  []int{4, 2},
		Latches: []api.Latch{{Lit: 10, Next: 15}, {Lit: 8, Next: 8, Reset: 8}, {Lit: 14, Next: 1, Reset: 1}},
		Outputs: []int{17, 2, 0},
		Bads:    []int{16, 1},
		Invars:  []int{5, 12},
		Ands:    []api.And{{Lit: 12, Left: 4, Right: 11}, {Lit: 16, Left: 13, Right: 13}},
		Names: []api.Name{
			{Kind: "i", At: 0, Text: "request"}, {Kind: "i", At: 1, Text: "!"},
			{Kind: "l", At: 2, Text: "~"}, {Kind: "o", At: 0, Text: "request"},
			{Kind: "b", At: 1, Text: "never"}, {Kind: "c", At: 0, Text: "request"}, {Kind: "c", At: 1, Text: "c1"},
		},
	}
}

// change is the sample with something other in it.
type change struct {
	name string
	make func(c *api.Circuit)
}

func checkChanges(t *testing.T, want api.Errno, changes []change) {
	t.Helper()
	for _, x := range changes {
		c := sample()
		x.make(&c)
		if got := circuit.Check(c); got != want {
			t.Errorf("P3.1: Check of the sample with %s = %d, want %d", x.name, got, want)
		}
	}
}

func TestCheckOfTheSample(t *testing.T) {
	checkChanges(t, api.OK, []change{{"nothing other", func(c *api.Circuit) {}}})
}

func TestCheckOfNothing(t *testing.T) {
	empty := api.Circuit{Inputs: []int{}, Latches: []api.Latch{}, Outputs: []int{}, Bads: []int{}, Invars: []int{}, Ands: []api.And{}, Names: []api.Name{}}
	for _, c := range []api.Circuit{{}, empty, {Max: 1}, {Bads: []int{0, 1, 0}}, {Max: 7, Outputs: []int{1}}} {
		if got := circuit.Check(c); got != api.OK {
			t.Errorf("P3.1: Check(%v) = %d, want OK", c, got)
		}
	}
	if got := circuit.Check(api.Circuit{Max: 1, Latches: []api.Latch{{Lit: 2, Next: 2}}}); got != api.OK {
		t.Errorf("P3.1: Check of a latch of itself = %d, want OK", got)
	}
}

func TestCheckMax(t *testing.T) {
	for _, most := range []int{0, 1, api.MaxVar - 1, api.MaxVar} {
		if got := circuit.Check(api.Circuit{Max: most}); got != api.OK {
			t.Errorf("P3.1: Check of Max %d = %d, want OK", most, got)
		}
	}
	for _, most := range []int{-1, math.MinInt, api.MaxVar + 1, 1 << 40, math.MaxInt} {
		if got := circuit.Check(api.Circuit{Max: most}); got != api.ErrState {
			t.Errorf("P3.1: Check of Max %d = %d, want ErrState", most, got)
		}
	}
	if got := circuit.Check(api.Circuit{Max: api.MaxVar + 1, Inputs: []int{2}}); got != api.ErrState {
		t.Errorf("P3.1: Check of too great a Max with an input = %d, want ErrState", got)
	}
}

// pinned is a circuit with n pins of a kind.
func pinned(kind string, n int) api.Circuit {
	c := api.Circuit{Max: n}
	for i := range n {
		switch kind {
		case "inputs":
			c.Inputs = append(c.Inputs, 2*i+2)
		case "latches":
			c.Latches = append(c.Latches, api.Latch{Lit: 2*i + 2})
		case "outputs":
			c.Outputs = append(c.Outputs, i%2)
		case "bads":
			c.Bads = append(c.Bads, i%2)
		case "invars":
			c.Invars = append(c.Invars, i%2)
		}
	}
	return c
}

func TestCheckPins(t *testing.T) {
	for _, kind := range []string{"inputs", "latches", "outputs", "bads", "invars"} {
		for _, n := range []int{1, api.MaxPins - 1, api.MaxPins} {
			if got := circuit.Check(pinned(kind, n)); got != api.OK {
				t.Errorf("P3.1: Check of %d %s = %d, want OK", n, kind, got)
			}
		}
		for _, n := range []int{api.MaxPins + 1, 2 * api.MaxPins, api.MaxVar} {
			if got := circuit.Check(pinned(kind, n)); got != api.ErrState {
				t.Errorf("P3.1: Check of %d %s = %d, want ErrState", n, kind, got)
			}
		}
	}
}

// greatest is the greatest circuit that may be, of 64 inputs, 64 latches, and ands up to MaxVar, with all names.
func greatest() api.Circuit {
	c := api.Circuit{Max: api.MaxVar}
	for i := range api.MaxPins {
		c.Inputs = append(c.Inputs, 2*i+2)
		c.Latches = append(c.Latches, api.Latch{Lit: 2*(i+api.MaxPins) + 2, Next: 2*api.MaxVar - i, Reset: i % 2})
		c.Outputs = append(c.Outputs, 2*api.MaxVar+1-i)
		c.Bads = append(c.Bads, 2*api.MaxVar-i)
		c.Invars = append(c.Invars, i)
	}
	for l := 4*api.MaxPins + 2; l <= 2*api.MaxVar; l += 2 {
		c.Ands = append(c.Ands, api.And{Lit: l, Left: l - 1, Right: l - 2})
	}
	for _, kind := range []string{"i", "l", "o", "b", "c"} {
		for at := range api.MaxPins {
			c.Names = append(c.Names, api.Name{Kind: kind, At: at, Text: strings.Repeat("x", 1+at%api.MaxName)})
		}
	}
	return c
}

func TestCheckOfTheGreatest(t *testing.T) {
	if got := circuit.Check(greatest()); got != api.OK {
		t.Errorf("P3.1: Check of the greatest circuit = %d, want OK", got)
	}
	c := greatest()
	c.Ands = append(c.Ands, api.And{Lit: 2*api.MaxVar + 2})
	if got := circuit.Check(c); got != api.ErrState {
		t.Errorf("P3.1: Check of an and more than the greatest circuit has = %d, want ErrState", got)
	}
	c = greatest()
	c.Names = append(c.Names, api.Name{Kind: "c", At: api.MaxPins, Text: "x"})
	if got := circuit.Check(c); got != api.ErrState {
		t.Errorf("P3.1: Check of a name more than the greatest circuit has = %d, want ErrState", got)
	}
}

// A literal that an input, a latch or an and stands for: even, of a variable up to Max, of no other one.
func TestCheckDefinedLiterals(t *testing.T) {
	for _, l := range []int{0, 1, 3, 7, 19, 20, 21, 5000, -1, -2, -8, math.MinInt, math.MaxInt, math.MaxInt - 1, 2, 4, 8, 10, 14, 12, 16} {
		checkChanges(t, api.ErrState, []change{
			{"one input more", func(c *api.Circuit) { c.Inputs = append(c.Inputs, l) }},
			{"one latch more", func(c *api.Circuit) { c.Latches = append(c.Latches, api.Latch{Lit: l}) }},
			{"one and more", func(c *api.Circuit) { c.Ands = append(c.Ands, api.And{Lit: l}) }},
			{"one and more ahead", func(c *api.Circuit) { c.Ands = append([]api.And{{Lit: l}}, c.Ands...) }},
		})
	}
	for _, l := range []int{6, 18} {
		checkChanges(t, api.OK, []change{
			{"an input of a variable that is nothing", func(c *api.Circuit) { c.Inputs = append(c.Inputs, l) }},
			{"a latch of a variable that is nothing", func(c *api.Circuit) { c.Latches = append(c.Latches, api.Latch{Lit: l}) }},
		})
	}
	checkChanges(t, api.OK, []change{
		{"an and of 2 Max", func(c *api.Circuit) { c.Ands = append(c.Ands, api.And{Lit: 18, Left: 17, Right: 16}) }},
		{"an and ahead", func(c *api.Circuit) { c.Ands = append([]api.And{{Lit: 6, Left: 5, Right: 4}}, c.Ands...) }},
	})
}

// One literal twice is refused within each list, too.
func TestCheckTwice(t *testing.T) {
	twice := []api.Circuit{
		{Max: 2, Inputs: []int{2, 2}},
		{Max: 2, Inputs: []int{4, 2, 4}},
		{Max: 2, Latches: []api.Latch{{Lit: 2}, {Lit: 2}}},
		{Max: 2, Ands: []api.And{{Lit: 2}, {Lit: 2}}},
		{Max: 2, Inputs: []int{2}, Latches: []api.Latch{{Lit: 2}}},
		{Max: 2, Inputs: []int{2}, Ands: []api.And{{Lit: 2}}},
		{Max: 2, Latches: []api.Latch{{Lit: 2}}, Ands: []api.And{{Lit: 2}}},
	}
	for _, c := range twice {
		if got := circuit.Check(c); got != api.ErrState {
			t.Errorf("P3.1: Check(%v) = %d, want ErrState", c, got)
		}
	}
}

func TestCheckAnds(t *testing.T) {
	checkChanges(t, api.ErrState, []change{
		{"ands out of order", func(c *api.Circuit) { c.Ands = []api.And{{Lit: 16, Left: 4, Right: 5}, {Lit: 12, Left: 4, Right: 11}} }},
		{"a Left that is its Lit", func(c *api.Circuit) { c.Ands[1].Left = 16 }},
		{"a Right that is its Lit", func(c *api.Circuit) { c.Ands[1].Right = 16 }},
		{"a Left that is its opposite", func(c *api.Circuit) { c.Ands[1].Left = 17 }},
		{"a Right that is its opposite", func(c *api.Circuit) { c.Ands[1].Right = 17 }},
		{"a Left above its Lit", func(c *api.Circuit) { c.Ands[0].Left = 16 }},
		{"a Right above its Lit", func(c *api.Circuit) { c.Ands[0].Right = 16 }},
		{"a Right of a latch above its Lit", func(c *api.Circuit) { c.Ands[0].Right = 14 }},
	})
	checkChanges(t, api.OK, []change{
		{"a Left just below its Lit", func(c *api.Circuit) { c.Ands[1].Left = 15 }},
		{"a Right just below its Lit", func(c *api.Circuit) { c.Ands[1].Right = 15 }},
		{"Left and Right that are opposites", func(c *api.Circuit) { c.Ands[1] = api.And{Lit: 16, Left: 4, Right: 5} }},
		{"Left and Right of false", func(c *api.Circuit) { c.Ands[1] = api.And{Lit: 16, Left: 1, Right: 0} }},
	})
}

func TestCheckReset(t *testing.T) {
	for _, reset := range []int{0, 1, 8} {
		checkChanges(t, api.OK, []change{{"a Reset that may be", func(c *api.Circuit) { c.Latches[1].Reset = reset }}})
	}
	for _, reset := range []int{2, 3, 9, 10, -1, -8, math.MinInt, math.MaxInt} {
		checkChanges(t, api.ErrState, []change{{"a Reset that may not be", func(c *api.Circuit) { c.Latches[1].Reset = reset }}})
	}
	one := api.Circuit{Max: 1, Latches: []api.Latch{{Lit: 2, Reset: 2}}}
	if got := circuit.Check(one); got != api.OK {
		t.Errorf("P3.1: Check of a Reset of 2 of latch 2 = %d, want OK", got)
	}
}

// naming is the sample with l in each place where a literal is named; what is below an and's Lit is its to keep to.
func naming(l int) []change {
	return []change{
		{"another Next", func(c *api.Circuit) { c.Latches[2].Next = l }},
		{"another Output", func(c *api.Circuit) { c.Outputs[1] = l }},
		{"another Bad", func(c *api.Circuit) { c.Bads[1] = l }},
		{"another Invar", func(c *api.Circuit) { c.Invars[1] = l }},
		{"another Left", func(c *api.Circuit) { c.Ands[1].Left = l }},
		{"another Right", func(c *api.Circuit) { c.Ands[1].Right = l }},
	}
}

func TestCheckNamedLiterals(t *testing.T) {
	for _, l := range []int{0, 1, 2, 3, 4, 5, 8, 9, 10, 11, 12, 13, 14, 15} {
		checkChanges(t, api.OK, naming(l))
	}
	for _, l := range []int{6, 7, 18, 19, 20, 21, 5000, -1, -2, -4, math.MinInt, math.MaxInt - 1, math.MaxInt} {
		checkChanges(t, api.ErrState, naming(l))
	}
	for _, l := range []int{16, 17} {
		checkChanges(t, api.OK, naming(l)[:4])
	}
}

func named(names ...api.Name) []change {
	return []change{{"the names", func(c *api.Circuit) { c.Names = names }}}
}

func TestCheckNames(t *testing.T) {
	checkChanges(t, api.OK, named())
	for kind, count := range map[string]int{"i": 2, "l": 3, "o": 3, "b": 2, "c": 2} {
		for at := range count {
			checkChanges(t, api.OK, named(api.Name{Kind: kind, At: at, Text: "x"}))
		}
		for _, at := range []int{count, count + 1, api.MaxPins, math.MaxInt, -1, math.MinInt} {
			checkChanges(t, api.ErrState, named(api.Name{Kind: kind, At: at, Text: "x"}))
		}
	}
	for _, kind := range []string{"", "a", "x", "0", "I", "il", "lo", "ilobc", "i ", " i", "c\n", "\x00", "\xff"} {
		checkChanges(t, api.ErrState, named(api.Name{Kind: kind, At: 0, Text: "x"}))
		checkChanges(t, api.ErrState, named(api.Name{Kind: kind, At: 1, Text: "x"}))
		checkChanges(t, api.ErrState, named(api.Name{Kind: "i", At: 0, Text: "x"}, api.Name{Kind: kind, At: 1, Text: "y"}))
		checkChanges(t, api.ErrState, named(api.Name{Kind: "c", At: 0, Text: "x"}, api.Name{Kind: kind, At: 1, Text: "y"}))
	}
}

// Names rise by their kinds, in the order i, l, o, b, c, and by At then; two may have one text, but not one pin two names.
func TestCheckOrderOfNames(t *testing.T) {
	kinds := []string{"i", "l", "o", "b", "c"}
	for i, first := range kinds {
		for j, second := range kinds {
			for at := range 2 {
				for to := range 2 {
					want := api.ErrState
					if i < j || i == j && at < to {
						want = api.OK
					}
					checkChanges(t, want, named(api.Name{Kind: first, At: at, Text: "x"}, api.Name{Kind: second, At: to, Text: "x"}))
				}
			}
		}
	}
	checkChanges(t, api.ErrState, named(api.Name{Kind: "l", At: 1, Text: "x"}, api.Name{Kind: "l", At: 1, Text: "y"}))
	checkChanges(t, api.ErrState, named(api.Name{Kind: "l", At: 0, Text: "x"}, api.Name{Kind: "l", At: 2, Text: "y"}, api.Name{Kind: "l", At: 1, Text: "z"}))
	checkChanges(t, api.ErrState, named(api.Name{Kind: "i", At: 0, Text: "x"}, api.Name{Kind: "c", At: 0, Text: "y"}, api.Name{Kind: "b", At: 0, Text: "z"}))
}

func TestCheckTexts(t *testing.T) {
	for b := range 256 {
		want := api.ErrState
		if b >= 33 && b <= 126 {
			want = api.OK
		}
		for _, text := range []string{string([]byte{byte(b)}), "x" + string([]byte{byte(b)}) + "x", "x" + string([]byte{byte(b)})} {
			checkChanges(t, want, named(api.Name{Kind: "i", At: 0, Text: text}))
		}
	}
	for _, n := range []int{1, 31, 32} {
		checkChanges(t, api.OK, named(api.Name{Kind: "i", At: 0, Text: strings.Repeat("x", n)}))
	}
	for _, n := range []int{0, 33, 64, 1 << 16} {
		checkChanges(t, api.ErrState, named(api.Name{Kind: "i", At: 0, Text: strings.Repeat("x", n)}))
	}
	for _, text := range []string{"a b", " a", "a ", "\u00e9", "a\n"} {
		checkChanges(t, api.ErrState, named(api.Name{Kind: "c", At: 1, Text: text}))
	}
	// The fault is found in the last name, too.
	checkChanges(t, api.ErrState, named(api.Name{Kind: "i", At: 0, Text: "x"}, api.Name{Kind: "i", At: 1, Text: ""}))
}
