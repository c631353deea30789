package aag_test

import (
	"math"
	"reflect"
	"slices"
	"strings"
	"sync"
	"testing"
	"unsafe"

	"interlock/aag"
	"interlock/api"
	"interlock/circuit"
)

// sample is a circuit with something of everything; variable 3 is nothing, and Max is more than the last one.
func sample() api.Circuit {
	return api.Circuit{
		Max:     9,
		Inputs:  []int{4, 2},
		Latches: []api.Latch{{Lit: 10, Next: 15}, {Lit: 8, Next: 8, Reset: 8}, {Lit: 14, Next: 1, Reset: 1}},
		Outputs: []int{17},
		Bads:    []int{16, 1, 0, 5},
		Invars:  []int{5, 12, 1, 1, 13},
		Ands:    []api.And{{Lit: 12, Left: 4, Right: 11}, {Lit: 16, Left: 13, Right: 13}},
		Names: []api.Name{
			{Kind: "i", At: 0, Text: "request"}, {Kind: "i", At: 1, Text: "!"},
			{Kind: "l", At: 2, Text: "~"}, {Kind: "o", At: 0, Text: "c"},
			{Kind: "b", At: 3, Text: "never"}, {Kind: "c", At: 0, Text: "0"}, {Kind: "c", At: 4, Text: "c4"},
		},
	}
}

// sampleText is the sample's text.
func sampleText() string {
	return textOf(sampleLines()...)
}

// textOf is a text of lines, each with its line feed.
func textOf(lines ...string) string {
	var text strings.Builder
	for _, line := range lines {
		text.WriteString(line + "\n")
	}
	return text.String()
}

// sampleLines are the lines of the sample's text.
func sampleLines() []string {
	return []string{
		"aag 9 2 3 1 2 4 5",
		"4", "2",
		"10 15", "8 8 8", "14 1 1",
		"17",
		"16", "1", "0", "5",
		"5", "12", "1", "1", "13",
		"12 4 11", "16 13 13",
		"i0 request", "i1 !", "l2 ~", "o0 c", "b3 never", "c0 0", "c4 c4",
	}
}

// The places of the sample's lines: where its names begin, and where there are no more.
const (
	sampleNames = 18
	sampleEnd   = 25
)

// greatest is a circuit with as much of everything as there may be.
func greatest() api.Circuit {
	c := api.Circuit{Max: api.MaxVar}
	for n := range api.MaxPins {
		c.Inputs = append(c.Inputs, 4*n+2)
		c.Latches = append(c.Latches, api.Latch{Lit: 4*n + 4, Next: 2*api.MaxVar - n, Reset: n % 2})
		c.Outputs = append(c.Outputs, 2*api.MaxVar+1-n)
		c.Bads = append(c.Bads, 2*api.MaxVar-2*n)
		c.Invars = append(c.Invars, 2*api.MaxVar+1)
	}
	for l := 4*api.MaxPins + 2; l <= 2*api.MaxVar; l += 2 {
		c.Ands = append(c.Ands, api.And{Lit: l, Left: l - 1, Right: l - 2})
	}
	for _, kind := range []string{"i", "l", "o", "b", "c"} {
		for n := range api.MaxPins {
			c.Names = append(c.Names, api.Name{Kind: kind, At: n, Text: strings.Repeat(string(rune('!'+n)), api.MaxName)})
		}
	}
	return c
}

// may lists circuits that may be, each with something other, and their texts.
func may() []struct {
	c    api.Circuit
	text string
} {
	return []struct {
		c    api.Circuit
		text string
	}{
		{api.Circuit{}, "aag 0 0 0 0 0 0 0\n"},
		{api.Circuit{Max: api.MaxVar}, "aag 2048 0 0 0 0 0 0\n"},
		{api.Circuit{Max: 1, Inputs: []int{2}}, "aag 1 1 0 0 0 0 0\n2\n"},
		{api.Circuit{Max: 1, Latches: []api.Latch{{Lit: 2, Next: 2}}}, "aag 1 0 1 0 0 0 0\n2 2\n"},
		{api.Circuit{Max: 1, Latches: []api.Latch{{Lit: 2, Next: 3, Reset: 1}}}, "aag 1 0 1 0 0 0 0\n2 3 1\n"},
		{api.Circuit{Max: 1, Latches: []api.Latch{{Lit: 2, Next: 0, Reset: 2}}}, "aag 1 0 1 0 0 0 0\n2 0 2\n"},
		{api.Circuit{Outputs: []int{1}}, "aag 0 0 0 1 0 0 0\n1\n"},
		{api.Circuit{Max: 1, Ands: []api.And{{Lit: 2, Left: 1, Right: 0}}}, "aag 1 0 0 0 1 0 0\n2 1 0\n"},
		{api.Circuit{Bads: []int{1}}, "aag 0 0 0 0 0 1 0\n1\n"},
		{api.Circuit{Invars: []int{0}}, "aag 0 0 0 0 0 0 1\n0\n"},
		{api.Circuit{Outputs: []int{0, 0}, Invars: []int{1}, Names: []api.Name{{Kind: "o", At: 1, Text: "c"}, {Kind: "c", At: 0, Text: "c"}}}, "aag 0 0 0 2 0 0 1\n0\n0\n1\no1 c\nc0 c\n"},
		{sample(), sampleText()},
	}
}

func TestPrint(t *testing.T) {
	for _, x := range may() {
		if got, e := aag.Print(x.c); got != x.text || e != api.OK {
			t.Errorf("P4.1: Print(%v) = %q, %d, want %q", x.c, got, e, x.text)
		}
	}
}

func TestPrintOfEmptyLists(t *testing.T) {
	empty := api.Circuit{Inputs: []int{}, Latches: []api.Latch{}, Outputs: []int{}, Bads: []int{}, Invars: []int{}, Ands: []api.And{}, Names: []api.Name{}}
	if got, e := aag.Print(empty); got != "aag 0 0 0 0 0 0 0\n" || e != api.OK {
		t.Errorf("P4.1: Print of empty lists = %q, %d", got, e)
	}
}

// mayNot lists circuits that may not be.
func mayNot() []api.Circuit {
	list := []api.Circuit{
		{Max: -1}, {Max: api.MaxVar + 1}, {Max: math.MinInt}, {Max: math.MaxInt},
		{Inputs: []int{2}}, {Max: 1, Inputs: []int{3}}, {Max: 1, Inputs: []int{2, 2}},
		{Outputs: []int{2}}, {Bads: []int{-1}}, {Invars: []int{math.MaxInt}}, {Outputs: make([]int, api.MaxPins+1)},
		{Max: 1, Latches: []api.Latch{{Lit: 2, Next: 4}}}, {Max: 1, Latches: []api.Latch{{Lit: 2, Next: 2, Reset: 3}}},
		{Max: 1, Ands: []api.And{{Lit: 2, Left: 2, Right: 0}}},
		{Names: []api.Name{{Kind: "o", At: 0, Text: "x"}}},
	}
	for _, name := range []api.Name{{Kind: "o", Text: "a b"}, {Kind: "o", Text: "a\nc"}, {Kind: "o"}, {Kind: "", Text: "x"}, {Kind: "ob", Text: "x"}, {Kind: "o", At: 1, Text: "x"}, {Kind: "o", At: -1, Text: "x"}, {Kind: "o", Text: strings.Repeat("x", api.MaxName+1)}, {Kind: "o", Text: "\xff"}} {
		list = append(list, api.Circuit{Outputs: []int{0}, Names: []api.Name{name}})
	}
	return list
}

func TestPrintOfWhatMayNotBe(t *testing.T) {
	for _, c := range mayNot() {
		if got, e := aag.Print(c); got != "" || e != api.ErrState {
			t.Errorf("P4.1: Print(%v) = %q, %d, want ErrState", c, got, e)
		}
	}
}

// comesBack tells whether a circuit comes back from its text, and the text from it.
func comesBack(t *testing.T, c api.Circuit) {
	t.Helper()
	text, e := aag.Print(c)
	if e != api.OK {
		t.Errorf("P4.2: Print(%v) = %d", c, e)
		return
	}
	got, lines, e := aag.Parse(text)
	if e != api.OK || !circuit.Same(got, c) || lines != strings.Count(text, "\n") {
		t.Errorf("P4.2: Parse of the text of %v = %v, %d, %d", c, got, lines, e)
	}
	if again, e := aag.Print(got); again != text || e != api.OK {
		t.Errorf("P4.2: the text %.200q comes back as %.200q, %d", text, again, e)
	}
}

func TestCircuitsComeBack(t *testing.T) {
	for _, x := range may() {
		comesBack(t, x.c)
	}
	comesBack(t, greatest())
}

// Every octet that a name's text may have, and every length.
func TestNamesComeBack(t *testing.T) {
	for b := byte(33); b <= 126; b++ {
		for n := 1; n <= api.MaxName; n++ {
			text := strings.Repeat(string(rune(b)), n)
			comesBack(t, api.Circuit{Invars: []int{1}, Names: []api.Name{{Kind: "c", At: 0, Text: text}}})
		}
	}
}

// Circuits of two latches, an input and an and, with all that a latch may be next and at first.
func TestSmallCircuitsComeBack(t *testing.T) {
	for next := range 10 {
		for _, reset := range []int{0, 1, 4} {
			for left := range 8 {
				for right := range 8 {
					c := api.Circuit{
						Max:     4,
						Inputs:  []int{6},
						Latches: []api.Latch{{Lit: 4, Next: next, Reset: reset}, {Lit: 2, Next: left, Reset: right / 7}},
						Bads:    []int{next},
						Invars:  []int{left, right},
						Ands:    []api.And{{Lit: 8, Left: left, Right: right}},
					}
					comesBack(t, c)
				}
			}
		}
	}
}

// whole is a list up to its capacity.
func whole[T any](l []T) []T {
	return l[:cap(l)]
}

// spoil writes over all that a circuit's lists hold, up to their capacities.
func spoil(c api.Circuit) {
	for _, l := range [][]int{c.Inputs, c.Outputs, c.Bads, c.Invars} {
		for i := range whole(l) {
			whole(l)[i] = 77
		}
	}
	for i := range whole(c.Latches) {
		whole(c.Latches)[i] = api.Latch{Lit: 77, Next: 77, Reset: 77}
	}
	for i := range whole(c.Ands) {
		whole(c.Ands)[i] = api.And{Lit: 77, Left: 77, Right: 77}
	}
	for i := range whole(c.Names) {
		whole(c.Names)[i] = api.Name{Kind: "spoilt", At: 77, Text: "spoilt"}
	}
}

func TestCircuitsAreNewMemory(t *testing.T) {
	text := sampleText()
	first, _, _ := aag.Parse(text)
	second, _, _ := aag.Parse(text)
	spoil(first)
	third, _, _ := aag.Parse(text)
	if !circuit.Same(second, sample()) || !circuit.Same(third, sample()) || text != sampleText() {
		t.Errorf("P4.3: two answers share memory: %v, %v", second, third)
	}
}

// No list of an answer reaches into another one of it.
func TestListsAreApart(t *testing.T) {
	spoilers := []func(c api.Circuit){
		func(c api.Circuit) { spoil(api.Circuit{Inputs: c.Inputs}) },
		func(c api.Circuit) { spoil(api.Circuit{Outputs: c.Outputs}) },
		func(c api.Circuit) { spoil(api.Circuit{Bads: c.Bads}) },
		func(c api.Circuit) { spoil(api.Circuit{Invars: c.Invars}) },
	}
	for i, spoilOne := range spoilers {
		c, _, _ := aag.Parse(sampleText())
		spoilOne(c)
		kept := sample()
		lists := [][]int{c.Inputs, c.Outputs, c.Bads, c.Invars}
		for j, want := range [][]int{kept.Inputs, kept.Outputs, kept.Bads, kept.Invars} {
			if i != j && !slices.Equal(lists[j], want) {
				t.Errorf("P4.3: two lists of an answer share memory: %v", c)
			}
		}
	}
}

// within tells whether the text lies in the memory of the other one.
func within(s, whole string) bool {
	at := uintptr(unsafe.Pointer(unsafe.StringData(s)))
	begin := uintptr(unsafe.Pointer(unsafe.StringData(whole)))
	return begin <= at && at < begin+uintptr(len(whole))
}

func TestTextsAreNewMemory(t *testing.T) {
	text := sampleText()
	c, _, _ := aag.Parse(text)
	for _, name := range c.Names {
		if within(name.Kind, text) || within(name.Text, text) {
			t.Errorf("P4.3: the name %v lies in the text that was handed in", name)
		}
	}
}

func TestPrintLeavesItsCircuit(t *testing.T) {
	for i, c := range append(mayNot(), sample(), greatest(), api.Circuit{}) {
		aag.Print(c)
		if kept := append(mayNot(), sample(), greatest(), api.Circuit{})[i]; !reflect.DeepEqual(c, kept) {
			t.Errorf("P4.3: Print changed %v to %v", kept, c)
		}
	}
}

// Print does not write into what lies behind its lists.
func TestPrintOfParts(t *testing.T) {
	c, kept := sample(), sample()
	part := c
	part.Names, part.Invars, part.Bads, part.Outputs = nil, c.Invars[:1], c.Bads[:1], c.Outputs[:0]
	if got, e := aag.Print(part); e != api.OK || got != "aag 9 2 3 0 2 1 1\n4\n2\n10 15\n8 8 8\n14 1 1\n16\n5\n12 4 11\n16 13 13\n" {
		t.Errorf("P4.1: Print of parts of lists = %q, %d", got, e)
	}
	if !reflect.DeepEqual(c, kept) {
		t.Errorf("P4.3: Print changed what lies behind its lists: %v", c)
	}
}

// P3: the answers hang on the arguments, however many ask at a time.
func TestSameAnswers(t *testing.T) {
	shared := greatest()
	want, _ := aag.Print(shared)
	var asked sync.WaitGroup
	for range 8 {
		asked.Add(1)
		go func() {
			defer asked.Done()
			for range 10 {
				if got, e := aag.Print(shared); got != want || e != api.OK {
					t.Errorf("P3: Print of the greatest circuit = %d octets, %d", len(got), e)
				}
				if got, lines, e := aag.Parse(want); !circuit.Same(got, shared) || lines != strings.Count(want, "\n") || e != api.OK {
					t.Errorf("P3: Parse of the greatest circuit's text = %d, %d", lines, e)
				}
			}
		}()
	}
	asked.Wait()
}
