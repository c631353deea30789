package circuit_test

import (
	"math"
	"reflect"
	"slices"
	"strings"
	"sync"
	"testing"
	"unsafe"

	"interlock/api"
	"interlock/circuit"
)

// odd lists circuits that may not be, one odder than the other.
func odd() []api.Circuit {
	ends := []int{math.MinInt, -3, -1, 0, 1, 2, 3, 1 << 41, math.MaxInt - 1, math.MaxInt}
	list := []api.Circuit{{Max: math.MinInt}, {Max: math.MaxInt}}
	for _, l := range ends {
		list = append(list, api.Circuit{
			Max:     l,
			Inputs:  []int{l, l, 3},
			Latches: []api.Latch{{Lit: l, Next: l, Reset: l}, {Lit: l, Next: 2, Reset: 3}},
			Outputs: []int{l},
			Bads:    []int{l, l},
			Invars:  []int{l},
			Ands:    []api.And{{Lit: l, Left: l, Right: l}, {Lit: 2, Left: 3, Right: l}, {Lit: 3, Left: l, Right: 2}, {Lit: l, Left: 5, Right: 7}},
			Names:   []api.Name{{Kind: "", At: l, Text: ""}, {Kind: "i", At: l, Text: "x"}, {Kind: "z", At: 0, Text: "\xff"}},
		})
	}
	return list
}

// changes is the sample, other in one place each.
func changes() []change {
	return []change{
		{"Max", func(c *api.Circuit) { c.Max++ }},
		{"an input", func(c *api.Circuit) { c.Inputs[1] = 6 }},
		{"the inputs' order", func(c *api.Circuit) { slices.Reverse(c.Inputs) }},
		{"an input less", func(c *api.Circuit) { c.Inputs = c.Inputs[:1] }},
		{"no inputs", func(c *api.Circuit) { c.Inputs = nil }},
		{"a latch's Lit", func(c *api.Circuit) { c.Latches[0].Lit = 6 }},
		{"a latch's Next", func(c *api.Circuit) { c.Latches[0].Next = 14 }},
		{"a latch's Reset", func(c *api.Circuit) { c.Latches[1].Reset = 0 }},
		{"the last latch's Reset", func(c *api.Circuit) { c.Latches[2].Reset = 14 }},
		{"a latch more", func(c *api.Circuit) { c.Latches = append(c.Latches, api.Latch{Lit: 18}) }},
		{"an output", func(c *api.Circuit) { c.Outputs[2] = 1 }},
		{"an output more", func(c *api.Circuit) { c.Outputs = append(c.Outputs, 0) }},
		{"a bad", func(c *api.Circuit) { c.Bads[0] = 17 }},
		{"a bad less", func(c *api.Circuit) { c.Bads = c.Bads[:1] }},
		{"an invar", func(c *api.Circuit) { c.Invars[0] = 4 }},
		{"no invars", func(c *api.Circuit) { c.Invars = nil }},
		{"an and's Lit", func(c *api.Circuit) { c.Ands[1].Lit = 18 }},
		{"an and's Left", func(c *api.Circuit) { c.Ands[0].Left = 5 }},
		{"an and's Right", func(c *api.Circuit) { c.Ands[0].Right = 10 }},
		{"an and's Left and Right", func(c *api.Circuit) { c.Ands[0].Left, c.Ands[0].Right = c.Ands[0].Right, c.Ands[0].Left }},
		{"an and more", func(c *api.Circuit) { c.Ands = append(c.Ands, api.And{Lit: 18}) }},
		{"a name's Kind", func(c *api.Circuit) { c.Names[2].Kind = "b" }},
		{"a name's At", func(c *api.Circuit) { c.Names[2].At = 1 }},
		{"a name's Text", func(c *api.Circuit) { c.Names[6].Text = "c2" }},
		{"a name less", func(c *api.Circuit) { c.Names = c.Names[:6] }},
	}
}

func TestSame(t *testing.T) {
	if !circuit.Same(sample(), sample()) {
		t.Error("P3.1: the sample is not the same as itself")
	}
	for _, x := range changes() {
		c := sample()
		x.make(&c)
		if circuit.Same(c, sample()) || circuit.Same(sample(), c) {
			t.Errorf("P3.1: the sample is the same with another in %s", x.name)
		}
		if !circuit.Same(c, c) {
			t.Errorf("P3.1: the sample with another in %s is not the same as itself", x.name)
		}
	}
}

// Nil lists and empty ones are one.
func TestSameOfEmptyLists(t *testing.T) {
	empty := api.Circuit{Inputs: []int{}, Latches: []api.Latch{}, Outputs: []int{}, Bads: []int{}, Invars: []int{}, Ands: []api.And{}, Names: []api.Name{}}
	if !circuit.Same(api.Circuit{}, empty) || !circuit.Same(empty, api.Circuit{}) {
		t.Error("P3.1: nil lists and empty ones are not the same")
	}
	if circuit.Same(api.Circuit{}, sample()) || circuit.Same(sample(), empty) {
		t.Error("P3.1: nothing is the same as the sample")
	}
}

// A number below 0 in the place of a literal counts as 0, but not in that of Max or At.
func TestSameOfNumbersBelowZero(t *testing.T) {
	places := func(l int) []api.Circuit {
		return []api.Circuit{
			{Inputs: []int{l}}, {Outputs: []int{l}}, {Bads: []int{l}}, {Invars: []int{l}},
			{Latches: []api.Latch{{Lit: l}}}, {Latches: []api.Latch{{Next: l}}}, {Latches: []api.Latch{{Reset: l}}},
			{Ands: []api.And{{Lit: l}}}, {Ands: []api.And{{Left: l}}}, {Ands: []api.And{{Right: l}}},
		}
	}
	for i, zero := range places(0) {
		for _, l := range []int{-1, -2, math.MinInt} {
			if c := places(l)[i]; !circuit.Same(c, zero) || !circuit.Same(zero, c) {
				t.Errorf("P2.1: %v and %v are not the same", c, zero)
			}
		}
		for _, l := range []int{1, 2, math.MaxInt} {
			if c := places(l)[i]; circuit.Same(c, zero) || circuit.Same(c, places(-1)[i]) {
				t.Errorf("P3.1: %v and %v are the same", c, zero)
			}
		}
	}
	if circuit.Same(api.Circuit{Max: -1}, api.Circuit{}) || circuit.Same(api.Circuit{Names: []api.Name{{At: -1}}}, api.Circuit{Names: []api.Name{{}}}) {
		t.Error("P3.1: -1 and 0 are the same in the place of Max, or of At")
	}
}

func TestCopy(t *testing.T) {
	list := append(odd(), sample(), greatest(), api.Circuit{})
	for _, c := range list {
		got := circuit.Copy(c)
		if !reflect.DeepEqual(got, c) || !circuit.Same(got, c) || circuit.Check(got) != circuit.Check(c) {
			t.Errorf("P3.1: Copy(%v) = %v", c, got)
		}
	}
	empty := api.Circuit{Inputs: []int{}, Names: []api.Name{}}
	if !circuit.Same(circuit.Copy(empty), api.Circuit{}) {
		t.Error("P3.1: the Copy of nothing is not nothing")
	}
}

// whole is a list up to its capacity.
func whole[T any](l []T) []T {
	return l[:cap(l)]
}

// spoil writes over all that a circuit's lists hold, up to their capacities.
func spoil(c api.Circuit) {
	for _, l := range [][]int{c.Inputs, c.Outputs, c.Bads, c.Invars} {
		for i := range whole(l) {
			whole(l)[i] = 77
		}
	}
	for i := range whole(c.Latches) {
		whole(c.Latches)[i] = api.Latch{Lit: 77, Next: 77, Reset: 77}
	}
	for i := range whole(c.Ands) {
		whole(c.Ands)[i] = api.And{Lit: 77, Left: 77, Right: 77}
	}
	for i := range whole(c.Names) {
		whole(c.Names)[i] = api.Name{Kind: "spoilt", At: 77, Text: "spoilt"}
	}
}

func TestCopyIsNewMemory(t *testing.T) {
	c := sample()
	first, second := circuit.Copy(c), circuit.Copy(c)
	spoil(first)
	if !reflect.DeepEqual(c, sample()) || !reflect.DeepEqual(second, sample()) {
		t.Error("P3.2: a Copy shares memory with the circuit, or with another Copy")
	}
	spoil(c)
	if !reflect.DeepEqual(second, sample()) {
		t.Error("P3.2: a Copy changes with the circuit")
	}
}

// A part of a list is copied alone: what lies behind it in memory stays as it is.
func TestCopyOfParts(t *testing.T) {
	c, kept := sample(), sample()
	part := c
	part.Inputs, part.Latches, part.Outputs, part.Bads = c.Inputs[:1], c.Latches[:1], c.Outputs[:1], c.Bads[:1]
	part.Invars, part.Ands, part.Names = c.Invars[:1], c.Ands[:1], c.Names[:1]
	got := circuit.Copy(part)
	if !circuit.Same(got, part) {
		t.Errorf("P3.1: Copy of parts of lists = %v", got)
	}
	spoil(got)
	if !reflect.DeepEqual(c, kept) {
		t.Errorf("P3.2: a Copy of parts of lists shares memory with them: %v", c)
	}
}

func TestTextsOfCopyAreNewMemory(t *testing.T) {
	c := sample()
	d := circuit.Copy(c)
	for i, name := range c.Names {
		if unsafe.StringData(name.Text) == unsafe.StringData(d.Names[i].Text) || unsafe.StringData(name.Kind) == unsafe.StringData(d.Names[i].Kind) {
			t.Errorf("P3.2: the Copy's name %v lies in the circuit's", name)
		}
	}
}

func TestKind(t *testing.T) {
	want := map[int]string{0: "0", 1: "i", 2: "i", 3: "", 4: "l", 5: "l", 6: "a", 7: "l", 8: "a", 9: "", 10: "", 2048: "", -1: "", -2: "", -4: "", math.MinInt: "", math.MaxInt: "", 1 << 62: ""}
	for v, kind := range want {
		if got := circuit.Kind(sample(), v); got != kind {
			t.Errorf("P3.1: Kind(%d) = %q, want %q", v, got, kind)
		}
		kind = ""
		if v == 0 {
			kind = "0"
		}
		if got := circuit.Kind(api.Circuit{}, v); got != kind {
			t.Errorf("P3.1: Kind(%d) of nothing = %q, want %q", v, got, kind)
		}
	}
}

// Of circuits that may not be: the first that a variable is, literals taken for their variables.
func TestKindOfOddCircuits(t *testing.T) {
	all := api.Circuit{Inputs: []int{0, 2}, Latches: []api.Latch{{Lit: 2}, {Lit: 4}}, Ands: []api.And{{Lit: 2}, {Lit: 4}, {Lit: 6}, {Lit: 9}, {Lit: math.MaxInt}}}
	for v, want := range map[int]string{0: "0", 1: "i", 2: "l", 3: "a", 4: "a", 5: "", -1: "", math.MaxInt / 2: "a", math.MaxInt/2 - 1: ""} {
		if got := circuit.Kind(all, v); got != want {
			t.Errorf("P3.1: Kind(%d) of %v = %q, want %q", v, all, got, want)
		}
	}
	below := api.Circuit{Inputs: []int{-2}, Latches: []api.Latch{{Lit: -4}}, Ands: []api.And{{Lit: -6}, {Lit: math.MinInt}}}
	for v, want := range map[int]string{0: "0", -1: "", -2: "", -3: "", 1: "", 2: "", 3: "", math.MinInt / 2: "", math.MinInt: ""} {
		if got := circuit.Kind(below, v); got != want {
			t.Errorf("P3.1: Kind(%d) of %v = %q, want %q", v, below, got, want)
		}
	}
}

type coneCase struct {
	l    []int
	want []int
}

func checkCones(t *testing.T, c api.Circuit, cases []coneCase) {
	t.Helper()
	for _, x := range cases {
		if got := circuit.Cone(c, x.l...); !slices.Equal(got, x.want) {
			t.Errorf("P3.1: Cone(%d) = %d, want %d", x.l, got, x.want)
		}
	}
}

func TestCone(t *testing.T) {
	checkCones(t, sample(), []coneCase{
		{nil, nil},
		{[]int{}, nil},
		{[]int{0}, nil},
		{[]int{1, 0, 1}, nil},
		{[]int{2}, []int{1}},
		{[]int{5}, []int{2}},
		// A latch's Next is of the step behind.
		{[]int{10}, []int{5}},
		{[]int{12}, []int{2, 5, 6}},
		{[]int{13}, []int{2, 5, 6}},
		{[]int{16}, []int{2, 5, 6, 8}},
		{[]int{17, 16, 12}, []int{2, 5, 6, 8}},
		{[]int{14, 4, 0, 2}, []int{1, 2, 7}},
		{[]int{16, 2}, []int{1, 2, 5, 6, 8}},
	})
}

// A variable that is none of the circuit's is there alone.
func TestConeOfNoVariable(t *testing.T) {
	checkCones(t, sample(), []coneCase{
		{[]int{6}, []int{3}},
		{[]int{7}, []int{3}},
		{[]int{19}, []int{9}},
		{[]int{20}, []int{10}},
		{[]int{5000}, []int{2500}},
		{[]int{math.MaxInt}, []int{math.MaxInt / 2}},
		{[]int{math.MaxInt, 12, 6, math.MaxInt - 1}, []int{2, 3, 5, 6, math.MaxInt / 2}},
		{[]int{-1}, nil},
		{[]int{-12, math.MinInt, -3}, nil},
		{[]int{-12, 12}, []int{2, 5, 6}},
	})
	checkCones(t, api.Circuit{}, []coneCase{{nil, nil}, {[]int{1}, nil}, {[]int{2, 9}, []int{1, 4}}})
	checkCones(t, api.Circuit{Ands: []api.And{{Lit: 8, Left: 7, Right: 100}}}, []coneCase{{[]int{8}, []int{3, 4, 50}}})
}

// Of several ands of one variable the first counts, be it an input's or a latch's, too.
func TestConeOfSeveralAnds(t *testing.T) {
	several := api.Circuit{
		Max:     9,
		Inputs:  []int{2, 8},
		Latches: []api.Latch{{Lit: 4}, {Lit: 10}},
		Ands:    []api.And{{Lit: 12, Left: 2, Right: 2}, {Lit: 12, Left: 4, Right: 4}, {Lit: 13, Left: 6, Right: 6}, {Lit: 8, Left: 2, Right: 14}, {Lit: 10, Left: 12, Right: 1}},
	}
	checkCones(t, several, []coneCase{
		{[]int{12}, []int{1, 6}},
		{[]int{13}, []int{1, 6}},
		{[]int{8}, []int{1, 4, 7}},
		{[]int{10}, []int{1, 5, 6}},
	})
	slices.Reverse(several.Ands)
	checkCones(t, several, []coneCase{{[]int{12}, []int{3, 6}}})
}

// Ands that hang on themselves, and on what comes behind them, have a cone, too.
func TestConeOfOddAnds(t *testing.T) {
	ring := api.Circuit{Ands: []api.And{{Lit: 2, Left: 4, Right: -9}, {Lit: 4, Left: 7, Right: 0}, {Lit: 6, Left: 2, Right: 6}, {Lit: 0, Left: 90, Right: 92}, {Lit: -5, Left: 94, Right: 96}}}
	checkCones(t, ring, []coneCase{
		{[]int{2}, []int{1, 2, 3}},
		{[]int{7}, []int{1, 2, 3}},
		{[]int{6, 100}, []int{1, 2, 3, 50}},
		// Variable 0 is false, and hangs on nothing.
		{[]int{0, 1, -5}, nil},
	})
}

func TestConeOfManyAnds(t *testing.T) {
	const n = 300000
	var deep api.Circuit
	for v := 2; v <= n; v++ {
		deep.Ands = append(deep.Ands, api.And{Lit: 2 * v, Left: 2*v - 2, Right: 2*v - 1})
	}
	slices.Reverse(deep.Ands)
	got := circuit.Cone(deep, 2*n)
	if len(got) != n || got[0] != 1 || !slices.IsSorted(got) || got[n-1] != n {
		t.Errorf("P3.1: Cone of %d ands, one on the other, are %d", n-1, len(got))
	}
	all := circuit.Cone(greatest(), greatest().Outputs...)
	if len(all) != api.MaxVar-2*api.MaxPins+1 {
		t.Errorf("P3.1: Cone of the greatest circuit's outputs are %d", len(all))
	}
}

func TestConeIsNewMemory(t *testing.T) {
	c, l := sample(), []int{16, 2, 16, 99, 98}
	first, second := circuit.Cone(c, l[:3]...), circuit.Cone(c, l[:3]...)
	for i := range whole(first) {
		whole(first)[i] = 77
	}
	if want := []int{1, 2, 5, 6, 8}; !slices.Equal(second, want) || !slices.Equal(circuit.Cone(c, l[:3]...), want) {
		t.Errorf("P3.2: two cones share memory: %d", second)
	}
	if !slices.Equal(l, []int{16, 2, 16, 99, 98}) || !reflect.DeepEqual(c, sample()) {
		t.Errorf("P3.2: Cone changed what was handed in to %d, %v", l, c)
	}
}

type findCase struct {
	text string
	l    int
	ok   bool
}

func checkFinds(t *testing.T, c api.Circuit, cases []findCase) {
	t.Helper()
	for _, x := range cases {
		if l, ok := circuit.Find(c, x.text); l != x.l || ok != x.ok {
			t.Errorf("P3.1: Find(%q) of %v = %d, %v, want %d, %v", x.text, c.Names, l, ok, x.l, x.ok)
		}
	}
}

func TestFind(t *testing.T) {
	checkFinds(t, sample(), []findCase{
		{"request", 4, true},
		{"!", 2, true},
		{"~", 14, true},
		{"never", 1, true},
		{"c1", 12, true},
		{"", 0, false},
		{"reques", 0, false},
		{"request ", 0, false},
		{"Request", 0, false},
		{"c0", 0, false},
		{strings.Repeat("x", 1<<20), 0, false},
	})
	checkFinds(t, api.Circuit{}, []findCase{{"", 0, false}, {"x", 0, false}})
}

// Each kind names its own pins.
func TestFindOfEachKind(t *testing.T) {
	c := sample()
	for kind, want := range map[string][]int{"i": c.Inputs, "l": {10, 8, 14}, "o": c.Outputs, "b": c.Bads, "c": c.Invars, "": c.Invars, "a": c.Invars, "il": c.Invars, "I": c.Invars, "\xff": c.Invars} {
		for at, l := range want {
			c.Names = []api.Name{{Kind: kind, At: at, Text: "x"}}
			checkFinds(t, c, []findCase{{"x", l, true}, {"y", 0, false}})
		}
		for _, at := range []int{len(want), len(want) + 1, math.MaxInt, -1, math.MinInt} {
			c.Names = []api.Name{{Kind: kind, At: at, Text: "x"}}
			checkFinds(t, c, []findCase{{"x", 0, false}})
		}
	}
}

// Of names with one text the first counts that names a pin.
func TestFindTheFirst(t *testing.T) {
	c := sample()
	c.Names = []api.Name{{Kind: "c", At: 2, Text: "x"}, {Kind: "i", At: -1, Text: "x"}, {Kind: "b", At: 0, Text: "y"}, {Kind: "l", At: 1, Text: "x"}, {Kind: "i", At: 0, Text: "x"}, {Kind: "q", At: 1, Text: ""}}
	checkFinds(t, c, []findCase{{"x", 8, true}, {"y", 16, true}, {"", 12, true}})
	c.Latches = nil
	checkFinds(t, c, []findCase{{"x", 4, true}})
	c.Inputs = []int{-4}
	checkFinds(t, c, []findCase{{"x", 0, true}})
	c.Inputs = []int{math.MaxInt}
	checkFinds(t, c, []findCase{{"x", math.MaxInt, true}})
}

// ask makes each call of a circuit.
func ask(c api.Circuit) (api.Errno, bool, string, []int, int, bool) {
	kinds := circuit.Kind(c, 0) + circuit.Kind(c, 1) + circuit.Kind(c, math.MinInt) + circuit.Kind(c, math.MaxInt)
	l, ok := circuit.Find(c, "x")
	return circuit.Check(c), circuit.Same(c, circuit.Copy(c)), kinds, circuit.Cone(c, math.MinInt, 3, math.MaxInt), l, ok
}

// P1: whatever the circuit is, each call answers.
func TestOddCircuits(t *testing.T) {
	for _, c := range odd() {
		if e, same, _, _, _, _ := ask(c); e != api.ErrState || !same {
			t.Errorf("P3.1: Check(%v) = %d, and it is one with its Copy: %v", c, e, same)
		}
	}
	long := api.Circuit{Names: make([]api.Name, 1<<20), Ands: make([]api.And, 1<<20), Latches: make([]api.Latch, 1<<20), Invars: make([]int, 1<<20)}
	for i := range long.Names {
		long.Names[i] = api.Name{Kind: "l", At: 1 << 20, Text: "x"}
	}
	if e, same, _, _, _, ok := ask(long); e != api.ErrState || !same || ok {
		t.Errorf("P3.1: of a great circuit that may not be Check = %d, Same = %v, Find = %v", e, same, ok)
	}
}

func TestCircuitsStayAsTheyAre(t *testing.T) {
	for i, c := range append(odd(), sample(), greatest()) {
		ask(c)
		if kept := append(odd(), sample(), greatest())[i]; !reflect.DeepEqual(c, kept) {
			t.Errorf("P3.2: a circuit that was handed in was changed from %v to %v", kept, c)
		}
	}
}

// P3: the answers hang on the arguments, however many ask at a time.
func TestSameAnswers(t *testing.T) {
	shared := greatest()
	want := circuit.Cone(shared, shared.Bads...)
	var asked sync.WaitGroup
	for range 8 {
		asked.Add(1)
		go func() {
			defer asked.Done()
			for range 20 {
				if e, same, _, _, l, ok := ask(shared); e != api.OK || !same || l != 2 || !ok {
					t.Errorf("P3: of the greatest circuit Check = %d, Same = %v, Find = %d, %v", e, same, l, ok)
				}
				if got := circuit.Cone(shared, shared.Bads...); !slices.Equal(got, want) {
					t.Errorf("P3: Cone of the greatest circuit's bads are %d", len(got))
				}
			}
		}()
	}
	asked.Wait()
}
