package aig_test

import (
	"math"
	"reflect"
	"slices"
	"strconv"
	"strings"
	"testing"

	"interlock/aig"
	"interlock/api"
	"interlock/circuit"
)

// read checks that octets are read, as that circuit.
func read(t *testing.T, octets string, want api.Circuit) {
	t.Helper()
	if c, e := aig.Read([]byte(octets)); e != api.OK || !circuit.Same(c, want) {
		t.Errorf("P5.1: Read(%.300q) = %v, %d, want %v", octets, c, e, want)
	}
}

// refused checks that octets are refused, with nothing beside it.
func refused(t *testing.T, octets string, want api.Errno) {
	t.Helper()
	c, e := aig.Read([]byte(octets))
	if e != want {
		t.Errorf("P5.1: Read(%.300q) = %d, want %d", octets, e, want)
	}
	if !reflect.DeepEqual(c, api.Circuit{}) {
		t.Errorf("P4: Read(%.300q) tells %v beside an error", octets, c)
	}
}

func TestRead(t *testing.T) {
	for _, x := range ordered() {
		read(t, x.octets, x.c)
	}
}

// The sample octet by octet, not only as Same looks at it.
func TestReadOfTheSample(t *testing.T) {
	if c, e := aig.Read([]byte(sampleAll)); !reflect.DeepEqual(c, sample()) || e != api.OK {
		t.Errorf("P5.1: Read of the sample's octets = %v, %d", c, e)
	}
}

// nothing is the octets of nothing.
const nothing = "aig 0 0 0 0 0 0 0\n"

func TestReadLong(t *testing.T) {
	for _, begin := range []string{"", nothing, sampleAll, nothing + "c\n", "\n", "aig "} {
		for _, b := range []string{"\x00", "x", "\n", "\xff", " "} {
			fill := strings.Repeat(b, api.MaxText-len(begin))
			refused(t, begin+fill, api.ErrSyntax)
			refused(t, begin+fill+b, api.ErrLong)
		}
	}
	refused(t, strings.Repeat("aig ", 1<<20), api.ErrLong)
	octets, e := aig.Write(greatest())
	if e != api.OK || len(octets) > api.MaxText {
		t.Errorf("P5.1: the greatest circuit has %d octets, %d", len(octets), e)
	}
}

// Names to no end, up to the largest length.
func TestReadLongNames(t *testing.T) {
	const name = "c0 aaaaaaaaaaaa\n"
	count := (api.MaxText - len(nothing)) / len(name)
	octets := nothing + strings.Repeat(name, count-1)
	octets += "c0 " + strings.Repeat("x", api.MaxText-len(octets)-4) + "\n"
	if len(octets) != api.MaxText {
		t.Fatalf("there are %d octets", len(octets))
	}
	refused(t, octets, api.ErrSyntax)
	refused(t, octets+"\n", api.ErrLong)
}

// Of the sample's octets, cut off at each place, the ones that end behind a name's line are a circuit's.
func TestReadShort(t *testing.T) {
	for n := range len(sampleAll) {
		cut := sampleAll[:n]
		names := n - len(sampleLines+sampleAnds)
		if names == 0 || names > 0 && strings.HasSuffix(cut, "\n") {
			want := sample()
			want.Names = want.Names[:strings.Count(cut[n-names:], "\n")]
			read(t, cut, want)
			continue
		}
		refused(t, cut, api.ErrSyntax)
	}
}

// A header that tells of more than there is, or of another Max than all variables are.
func TestReadHeaderOfMore(t *testing.T) {
	for at := 1; at <= 7; at++ {
		for _, n := range []int{1, 2, 64, 65, 2048, 2049, 1 << 20, 1 << 40} {
			words := strings.Fields(nothing)
			words[at] = strconv.Itoa(n)
			refused(t, strings.Join(words, " ")+"\n", api.ErrSyntax)
		}
	}
	refused(t, "aig 1 0 0 0 0 0 0\n", api.ErrSyntax)
	refused(t, "aig 0 1 0 0 0 0 0\n", api.ErrSyntax)
	refused(t, "aig 2 1 0 0 0 0 0\n", api.ErrSyntax)
	refused(t, "aig 1099511627776 1099511627776 0 0 0 0 0\n", api.ErrSyntax)
	refused(t, "aig 2049 0 0 0 2049 0 0\n"+strings.Repeat("\x01\x00", 2049), api.ErrSyntax)
	read(t, "aig 2048 0 0 0 2048 0 0\n"+strings.Repeat("\x02\x00", 2048), chain(api.MaxVar))
}

// chain is a circuit of ands, each of the one ahead of it.
func chain(n int) api.Circuit {
	c := api.Circuit{Max: n}
	for v := 1; v <= n; v++ {
		c.Ands = append(c.Ands, api.And{Lit: 2 * v, Left: 2*v - 2, Right: 2*v - 2})
	}
	return c
}

// As many pins as there may be, and one more.
func TestReadPins(t *testing.T) {
	many := make([]int, api.MaxPins)
	read(t, "aig 0 0 0 64 0 0 0\n"+strings.Repeat("0\n", 64), api.Circuit{Outputs: many})
	read(t, "aig 0 0 0 0 0 64 0\n"+strings.Repeat("0\n", 64), api.Circuit{Bads: many})
	read(t, "aig 0 0 0 0 0 0 64\n"+strings.Repeat("0\n", 64), api.Circuit{Invars: many})
	refused(t, "aig 0 0 0 65 0 0 0\n"+strings.Repeat("0\n", 65), api.ErrSyntax)
	refused(t, "aig 0 0 0 0 0 65 0\n"+strings.Repeat("0\n", 65), api.ErrSyntax)
	refused(t, "aig 0 0 0 0 0 0 65\n"+strings.Repeat("0\n", 65), api.ErrSyntax)
	inputs := api.Circuit{Max: 64}
	latches := api.Circuit{Max: 64}
	for n := range 64 {
		inputs.Inputs = append(inputs.Inputs, 2*n+2)
		latches.Latches = append(latches.Latches, api.Latch{Lit: 2*n + 2, Next: 0})
	}
	read(t, "aig 64 64 0 0 0 0 0\n", inputs)
	refused(t, "aig 65 65 0 0 0 0 0\n", api.ErrSyntax)
	read(t, "aig 64 0 64 0 0 0 0\n"+strings.Repeat("0\n", 64), latches)
	refused(t, "aig 65 0 65 0 0 0 0\n"+strings.Repeat("0\n", 65), api.ErrSyntax)
}

func TestReadHeader(t *testing.T) {
	wrong := []string{
		"", " ", "aig", "aig ", "0 0 0 0 0 0 0", "aag 0 0 0 0 0 0 0", "AIG 0 0 0 0 0 0 0", "aigg 0 0 0 0 0 0 0", "ai 0 0 0 0 0 0 0", "0 aig 0 0 0 0 0 0",
		"aig 0 0 0 0 0 0", "aig 0 0 0 0 0 0 0 0", "aig 0 0 0 0 0", "aig 0 0 0 0 0 0 0 0 0",
		"aig 0 0 0 0 0 0 x", "aig x 0 0 0 0 0 0", "aig 0 0 0 -1 0 0 0", "aig -1 0 0 0 0 0 0", "aig -0 0 0 0 0 0 0", "aig 00 0 0 0 0 0 0", "aig 0 0 0 0 0 0 07", "aig 0 +1 0 0 0 0 0",
		"aig 0 1 -1 0 0 0 0", "aig 0 -1 0 0 1 0 0", "aig -1 -1 0 0 0 0 0",
		"aig 1099511627777 0 0 0 0 0 0", "aig 0 0 0 0 0 0 18446744073709551616",
		" aig 0 0 0 0 0 0 0", "aig 0 0 0 0 0 0 0 ", "aig  0 0 0 0 0 0 0", "aig 0 0 0  0 0 0 0", "aig\t0 0 0 0 0 0 0", "aig 0 0 0 0 0 0 0\r", "\ufeffaig 0 0 0 0 0 0 0",
		"c", "i0 x",
	}
	for _, line := range wrong {
		refused(t, line+"\n", api.ErrSyntax)
		refused(t, line, api.ErrSyntax)
	}
}

// sampleTexts are the lines of the sample that are text: those ahead of its ands, and behind them.
func sampleTexts() (ahead, behind []string) {
	return strings.Split(strings.TrimSuffix(sampleLines, "\n"), "\n"), strings.Split(strings.TrimSuffix(sampleNames, "\n"), "\n")
}

// changed visits the sample's octets, each time with another line in the place of one that is there.
func changed(others func(line string) []string, visit func(octets string)) {
	ahead, behind := sampleTexts()
	for at, line := range ahead {
		for _, other := range others(line) {
			lines := slices.Clone(ahead)
			lines[at] = other
			visit(strings.Join(lines, "\n") + "\n" + sampleAnds + sampleNames)
		}
	}
	for at, line := range behind {
		for _, other := range others(line) {
			lines := slices.Clone(behind)
			lines[at] = other
			visit(sampleLines + sampleAnds + strings.Join(lines, "\n") + "\n")
		}
	}
}

// Blanks too many, other octets, and words too many and too few, in each of the sample's lines.
func TestReadLines(t *testing.T) {
	others := func(line string) []string {
		wrong := []string{"", " ", "  ", " " + line, line + " ", line + "  ", "\t" + line, line + "\t", line + "\r", line + "\x00", line + " x", line + " 0", line + " 1 1 1", "x " + line, line + "\n", line + "\n\n", "\n" + line, "c", "x"}
		if strings.Contains(line, " ") {
			wrong = append(wrong, strings.Replace(line, " ", "  ", 1), strings.Replace(line, " ", "\t", 1), strings.Replace(line, " ", "\n", 1))
		}
		return wrong
	}
	changed(others, func(octets string) { refused(t, octets, api.ErrSyntax) })
}

// Each number of each line, written as none is.
func TestReadNumbers(t *testing.T) {
	wrong := []string{"x", "-1", "-0", "00", "07", "+1", "1x", "0x1", "1.", "1099511627776", "1099511627777", "18446744073709551618", "\u0661", "--1", "-", "1_0"}
	others := func(line string) []string {
		var list []string
		words := strings.Fields(line)
		for i := range words {
			if _, e := strconv.Atoi(words[i]); e != nil || words[0][0] == 'c' {
				continue
			}
			for _, number := range wrong {
				other := slices.Clone(words)
				other[i] = number
				list = append(list, strings.Join(other, " "))
			}
		}
		return list
	}
	changed(others, func(octets string) { refused(t, octets, api.ErrSyntax) })
	for _, number := range wrong {
		refused(t, sampleLines+sampleAnds+"i"+number+" request\n", api.ErrSyntax)
	}
}

// A Reset of 0 is not written out; one that is neither 0, 1 nor the latch is none.
func TestReadReset(t *testing.T) {
	latch := func(line string) string { return "aig 2 1 1 0 0 0 0\n" + line + "\n" }
	want := func(next, reset int) api.Circuit {
		return api.Circuit{Max: 2, Inputs: []int{2}, Latches: []api.Latch{{Lit: 4, Next: next, Reset: reset}}}
	}
	read(t, latch("2"), want(2, 0))
	read(t, latch("2 1"), want(2, 1))
	read(t, latch("2 4"), want(2, 4))
	read(t, latch("5 4"), want(5, 4))
	for _, line := range []string{"2 0", "2 00", "2 2", "2 3", "2 5", "2 6", "4 2 1", "4 2", "6", "6 1", "", "2 1 0", "2 -1"} {
		refused(t, latch(line), api.ErrSyntax)
	}
}

// single is the octets of a circuit of inputs, and of an and of these octets.
func single(inputs int, and string) string {
	return "aig " + strconv.Itoa(inputs+1) + " " + strconv.Itoa(inputs) + " 0 0 1 0 0\n" + and
}

// The numbers of an and: no more groups than are needed, none missing, Left below Lit, Right not below 0.
func TestReadAnds(t *testing.T) {
	want := func(left, right int) api.Circuit {
		c := api.Circuit{Max: 64}
		for n := range 63 {
			c.Inputs = append(c.Inputs, 2*n+2)
		}
		c.Ands = []api.And{{Lit: 128, Left: left, Right: right}}
		return c
	}
	read(t, single(63, "\x01\x00"), want(127, 127))
	read(t, single(63, "\x01\x7f"), want(127, 0))
	read(t, single(63, "\x7f\x01"), want(1, 0))
	read(t, single(63, "\x7f\x00"), want(1, 1))
	read(t, single(63, "\x80\x01\x00"), want(0, 0))
	read(t, single(63, "\x0a\x0a"), want(118, 108))
	read(t, single(63, "\x20\x20"), want(96, 64))
	for _, and := range []string{
		"", "\x01", "\x80", "\x80\x01", "\x01\x80", "\x80\x01\x80",
		// Lit itself, and the one beyond 0.
		"\x00\x00", "\x00\x01", "\x01\x80\x01", "\x80\x01\x01", "\x81\x01\x00", "\x7f\x02", "\x02\x7f",
		// More groups than are needed.
		"\x81\x00\x00", "\x81\x80\x00\x00", "\x80\x81\x00\x00", "\x01\x80\x00", "\x01\x81\x00", "\x01\x80\x80\x00", "\xff\x00\x00", "\x80\x00\x00", "\x80\x80\x00\x00",
		// More groups than any number has.
		"\x80\x80\x01\x00", "\xff\xff\xff\xff\xff\xff\xff\xff\xff\xff\x01\x00", "\x01" + strings.Repeat("\x80", 60) + "\x00", strings.Repeat("\x80", 10) + "\x02\x00", strings.Repeat("\xff", 9) + "\x7f\x00", strings.Repeat("\xff", 60000),
		// Numbers of two groups beyond all that there are.
		"\xff\x7f\x00", "\x01\xff\x7f",
		// One octet too many.
		"\x01\x00\x00", "\x01\x00\x01", "\x01\x00\n", "\x01\x00\xff",
	} {
		refused(t, single(63, and), api.ErrSyntax)
	}
}

// All ands of two numbers of up to two octets each, over an input and over none.
func TestReadAllAnds(t *testing.T) {
	for inputs := range 3 {
		lit := 2*inputs + 2
		for first := range 256 {
			for second := range 256 {
				octets := single(inputs, string([]byte{byte(first), byte(second)}))
				if left := lit - first; first > 0 && left >= 0 && second <= left {
					c, e := aig.Read([]byte(octets))
					if e != api.OK || len(c.Ands) != 1 || c.Ands[0] != (api.And{Lit: lit, Left: left, Right: left - second}) {
						t.Errorf("P5.1: Read(%q) = %v, %d", octets, c, e)
					}
					continue
				}
				refused(t, octets, api.ErrSyntax)
			}
		}
	}
}

// What is named must be there: an and of Left and Right may be of any variable ahead of it, a latch and a pin of any.
func TestReadNamed(t *testing.T) {
	read(t, "aig 1 0 0 2 1 0 0\n2\n3\n\x01\x00", api.Circuit{Max: 1, Outputs: []int{2, 3}, Ands: []api.And{{Lit: 2, Left: 1, Right: 1}}})
	refused(t, "aig 1 0 0 2 1 0 0\n2\n4\n\x01\x00", api.ErrSyntax)
	refused(t, "aig 0 0 0 0 0 1 0\n2\n", api.ErrSyntax)
	refused(t, "aig 0 0 0 0 0 0 1\n1099511627776\n", api.ErrSyntax)
	read(t, "aig 2 0 1 0 1 0 0\n5\n\x02\x00", api.Circuit{Max: 2, Latches: []api.Latch{{Lit: 2, Next: 5}}, Ands: []api.And{{Lit: 4, Left: 2, Right: 2}}})
	refused(t, "aig 2 0 1 0 1 0 0\n6\n\x02\x00", api.ErrSyntax)
}

// Names that are none, that are out of order, that are twice, and a single c, which ends no octets.
func TestReadNames(t *testing.T) {
	wrong := []string{
		"", " ", "i", "i0", "i0 ", " i0 x", "i0  x", "i0 x ", "i0 x y", "i 0 x", "i x", "0 x", "0i x", "i-1 x", "i00 x", "i0x x", "i1099511627777 x", "ii0 x", "il0 x",
		"a0 x", "I0 x", "C0 x", "j0 x", "f0 x", "z0 x", "x x", " c", "c ", "c c", "cc", "c0", "C", "c", "\xff0 x", "\u00ed0 x", "\x000 x",
		"i2 x", "i1099511627776 x", "l3 x", "o1 x", "b4 x", "c5 x",
		"i0 " + strings.Repeat("x", api.MaxName+1), "i0 \xff", "i0 x\ty", "i0 \x7f", "i0 x\r", "i0 x\x00", "i0 \u00e9",
	}
	for _, line := range wrong {
		refused(t, sampleLines+sampleAnds+line+"\n", api.ErrSyntax)
		refused(t, sampleAll+line+"\n", api.ErrSyntax)
		refused(t, nothing+line+"\n", api.ErrSyntax)
	}
	begin := sampleLines + sampleAnds
	read(t, begin+"i0 x\ni1 x\nl0 x\nl1 x\n", renamed(api.Name{Kind: "i", At: 0, Text: "x"}, api.Name{Kind: "i", At: 1, Text: "x"}, api.Name{Kind: "l", At: 0, Text: "x"}, api.Name{Kind: "l", At: 1, Text: "x"}))
	read(t, begin+"c4 "+strings.Repeat("~", api.MaxName)+"\n", renamed(api.Name{Kind: "c", At: 4, Text: strings.Repeat("~", api.MaxName)}))
	refused(t, begin+"i0 x\ni0 x\n", api.ErrSyntax)
	refused(t, begin+"i1 x\ni0 x\n", api.ErrSyntax)
	refused(t, begin+"l0 x\ni0 x\n", api.ErrSyntax)
	refused(t, begin+"b0 x\no0 x\n", api.ErrSyntax)
	refused(t, begin+"c0 x\nb0 x\n", api.ErrSyntax)
	refused(t, begin+"c\ni0 x\n", api.ErrSyntax)
	refused(t, begin+"i0 x\nc\nwhatever\n", api.ErrSyntax)
}

// renamed is the sample with other names.
func renamed(names ...api.Name) api.Circuit {
	c := sample()
	c.Names = names
	return c
}

// checkAnswer holds what Read tells of any octets against what each answer has to be.
func checkAnswer(t *testing.T, octets string) {
	t.Helper()
	c, e := aig.Read([]byte(octets))
	switch e {
	case api.OK:
		if back, f := aig.Write(c); f != api.OK || string(back) != octets {
			t.Errorf("P5.1: the octets %q come back as %q, %d", octets, back, f)
		}
		if circuit.Check(c) != api.OK || !inOrder(c) || octetsOf(t, c) != octets {
			t.Errorf("P5.1: Read(%q) = %v", octets, c)
		}
	case api.ErrSyntax, api.ErrLong:
		if (e == api.ErrLong) != (len(octets) > api.MaxText) || !reflect.DeepEqual(c, api.Circuit{}) {
			t.Errorf("P5.1: Read(%.200q) = %v, %d", octets, c, e)
		}
	default:
		t.Errorf("P5.1: Read(%.200q) = %d", octets, e)
	}
}

// P1, P5.2: the sample's octets with one changed, put in, or left out: none but a circuit's are read.
func TestReadOfChangedOctets(t *testing.T) {
	for at := range len(sampleAll) {
		checkAnswer(t, sampleAll[:at]+sampleAll[at+1:])
		for b := range 256 {
			octet := string([]byte{byte(b)})
			checkAnswer(t, sampleAll[:at]+octet+sampleAll[at+1:])
			checkAnswer(t, sampleAll[:at]+octet+sampleAll[at:])
		}
	}
}

// P1: whatever comes in, each call answers.
func TestOddOctets(t *testing.T) {
	var all strings.Builder
	for b := range 256 {
		all.WriteByte(byte(b))
	}
	for _, s := range []string{"", "\x00", "\xff\xfe", "\n", all.String(), nothing + all.String(), strings.Repeat("c\n", 1<<15), strings.Repeat("aig 0 ", 9999), nothing + strings.Repeat("\n", 60000), strings.Repeat("\x80", api.MaxText)} {
		checkAnswer(t, s)
	}
	for _, n := range []int{math.MaxInt, math.MinInt, 1 << 40} {
		checkAnswer(t, "aig "+strings.Repeat(strconv.Itoa(n)+" ", 6)+strconv.Itoa(n)+"\n")
	}
}
