package aag_test

import (
	"math"
	"reflect"
	"slices"
	"strconv"
	"strings"
	"testing"

	"interlock/aag"
	"interlock/api"
	"interlock/circuit"
)

// refused checks that a text is refused, at that place, with nothing beside it.
func refused(t *testing.T, text string, at int, want api.Errno) {
	t.Helper()
	c, lines, e := aag.Parse(text)
	if lines != at || e != want {
		t.Errorf("P4.1: Parse(%.300q) = %d, %d, want %d, %d", text, lines, e, at, want)
	}
	if !reflect.DeepEqual(c, api.Circuit{}) {
		t.Errorf("P4: Parse(%.300q) tells %v beside an error", text, c)
	}
}

// read checks that a text is read, as that circuit, of so many lines.
func read(t *testing.T, text string, want api.Circuit, lines int) {
	t.Helper()
	c, n, e := aag.Parse(text)
	if e != api.OK || n != lines || !circuit.Same(c, want) {
		t.Errorf("P4.1: Parse(%.300q) = %v, %d, %d, want %v, %d", text, c, n, e, want, lines)
	}
}

func TestParse(t *testing.T) {
	for _, x := range may() {
		read(t, x.text, x.c, strings.Count(x.text, "\n"))
	}
}

// The sample's circuit octet by octet, not only as Same looks at it.
func TestParseOfTheSample(t *testing.T) {
	if c, n, e := aag.Parse(sampleText()); !reflect.DeepEqual(c, sample()) || n != sampleEnd || e != api.OK {
		t.Errorf("P4.1: Parse of the sample's text = %v, %d, %d", c, n, e)
	}
}

// nothing is the text of nothing, of one line.
const nothing = "aag 0 0 0 0 0 0 0\n"

func TestParseLong(t *testing.T) {
	padded := func(text string, length int) string {
		return text + strings.Repeat("x", length-len(text))
	}
	read(t, padded(nothing+"c\n", api.MaxText), api.Circuit{}, 1)
	refused(t, padded(nothing+"c\n", api.MaxText+1), 0, api.ErrLong)
	read(t, sampleText()+padded("c\n\n\n", api.MaxText-len(sampleText())), sample(), sampleEnd)
	refused(t, sampleText()+padded("c\n\n\n", api.MaxText+1-len(sampleText())), 0, api.ErrLong)
	// Whatever the text is, ErrLong goes ahead.
	refused(t, strings.Repeat("\n", api.MaxText), 0, api.ErrSyntax)
	refused(t, strings.Repeat("\n", api.MaxText+1), 0, api.ErrLong)
	refused(t, strings.Repeat("x", api.MaxText), 0, api.ErrShort)
	refused(t, strings.Repeat("x", api.MaxText+1), 0, api.ErrLong)
	refused(t, strings.Repeat("aag ", 1<<20), 0, api.ErrLong)
}

// A text of the largest length of which each line is read: names to no end.
func TestParseLongNames(t *testing.T) {
	const name = "c0 aaaaaaaaaaaa\n"
	count := (api.MaxText - len(nothing)) / len(name)
	text := nothing + strings.Repeat(name, count-1)
	text += "c0 " + strings.Repeat("x", api.MaxText-len(text)-4) + "\n"
	if len(text) != api.MaxText {
		t.Fatalf("the text has %d octets", len(text))
	}
	refused(t, text, count+1, api.ErrState)
	refused(t, text[:len(text)-1]+"x", count, api.ErrShort)
	refused(t, text+"\n", 0, api.ErrLong)
}

// Whatever may be has a text that is not too long.
func TestGreatestText(t *testing.T) {
	text, e := aag.Print(greatest())
	if e != api.OK || len(text) > api.MaxText {
		t.Errorf("P4.1: the greatest circuit's text has %d octets, %d", len(text), e)
	}
}

// Of the sample's text, cut off at each octet, the line that was cut lacks its line feed.
func TestParseShort(t *testing.T) {
	text := sampleText()
	for n := range len(text) {
		cut := text[:n]
		at := strings.Count(cut, "\n")
		if at >= sampleNames && strings.HasSuffix(cut, "\n") {
			want := sample()
			want.Names = want.Names[:at-sampleNames]
			read(t, cut, want, at)
			continue
		}
		refused(t, cut, at, api.ErrShort)
	}
}

// A line that lacks its line feed is too short whatever it is, of another form, too, or a single c.
func TestParseShortWhateverItIs(t *testing.T) {
	for _, line := range []string{"x", " ", "07", "-1", "aag", "c", "c0", "c ", "i0 x", "z0 x", "0 0 0 0", "\x00", "\xff", "\r"} {
		refused(t, line, 0, api.ErrShort)
		for n := range sampleLines() {
			refused(t, textOf(sampleLines()[:n+1]...)+line, n+1, api.ErrShort)
		}
	}
	refused(t, "", 0, api.ErrShort)
	refused(t, strings.TrimSuffix(nothing, "\n"), 0, api.ErrShort)
	refused(t, nothing+"c", 1, api.ErrShort)
}

// A header that tells of more than there is.
func TestParseShortOfMore(t *testing.T) {
	for at := 1; at <= 6; at++ {
		for _, n := range []int{1, 2, 64, 65, 1 << 20, 1 << 40} {
			words := strings.Fields(nothing)
			words[1+at] = strconv.Itoa(n)
			refused(t, strings.Join(words, " ")+"\n", 1, api.ErrShort)
		}
	}
	refused(t, "aag 1 1 1 1 1 1 1\n2\n", 2, api.ErrShort)
	refused(t, "aag 1 1099511627776 0 0 0 0 0\n2\n2\n2\n", 4, api.ErrShort)
}

func TestParseHeader(t *testing.T) {
	wrong := []string{
		"", " ", "aag", "aag ", "0 0 0 0 0 0 0", "aig 0 0 0 0 0 0 0", "AAG 0 0 0 0 0 0 0", "aagg 0 0 0 0 0 0 0", "aa 0 0 0 0 0 0 0", "0 aag 0 0 0 0 0 0",
		// Six numbers, and eight, and others.
		"aag 0 0 0 0 0 0", "aag 0 0 0 0 0 0 0 0", "aag 0 0 0 0 0", "aag 0 0 0 0 0 0 0 0 0",
		"aag 0 0 0 0 0 0 x", "aag x 0 0 0 0 0 0", "aag 0 0 0 -1 0 0 0", "aag -1 0 0 0 0 0 0", "aag -0 0 0 0 0 0 0", "aag 00 0 0 0 0 0 0", "aag 0 0 0 0 0 0 07", "aag 0 +1 0 0 0 0 0",
		"aag 1099511627777 0 0 0 0 0 0", "aag 0 0 0 0 0 0 18446744073709551616",
		" aag 0 0 0 0 0 0 0", "aag 0 0 0 0 0 0 0 ", "aag  0 0 0 0 0 0 0", "aag 0 0 0  0 0 0 0", "aag\t0 0 0 0 0 0 0", "aag 0 0 0 0 0 0 0\r", "\ufeffaag 0 0 0 0 0 0 0",
		"c", "i0 x",
	}
	for _, line := range wrong {
		refused(t, line+"\n", 0, api.ErrSyntax)
		refused(t, line+"\nc\n", 0, api.ErrSyntax)
	}
}

// replaced is the sample's text with another line at that place.
func replaced(at int, line string) string {
	lines := sampleLines()
	lines[at] = line
	return textOf(lines...)
}

// Blanks too many, and other octets than blanks between words, in each of the sample's lines.
func TestParseBlanks(t *testing.T) {
	for at, line := range sampleLines() {
		wrong := []string{"", " ", "  ", " " + line, line + " ", line + "  ", "\t" + line}
		if at < sampleNames {
			// Behind a name's Text they would be of it.
			wrong = append(wrong, line+"\t", line+"\r", line+"\x00")
		}
		if strings.Contains(line, " ") {
			wrong = append(wrong, strings.Replace(line, " ", "  ", 1), strings.Replace(line, " ", "\t", 1), strings.ReplaceAll(line, " ", ""))
		}
		for _, other := range wrong {
			refused(t, replaced(at, other), at, api.ErrSyntax)
		}
	}
}

// Words too many, and too few, in each of the sample's lines.
func TestParseWords(t *testing.T) {
	for at, line := range sampleLines() {
		words := strings.Fields(line)
		wrong := []string{line + " 1 1", line + " x", "x " + line}
		if at < 3 || at > 5 || len(words) > 2 {
			wrong = append(wrong, line+" 1", "1 "+line)
		}
		if len(words) > 1 {
			wrong = append(wrong, words[0])
		}
		if len(words) > 1 && (at < 3 || at > 5) {
			wrong = append(wrong, strings.Join(words[1:], " "), strings.Join(words[:len(words)-1], " "))
		}
		for _, other := range wrong {
			// Of a single c there is a test of its own.
			if other != "c" {
				refused(t, replaced(at, other), at, api.ErrSyntax)
			}
		}
	}
}

// Each number of each line, written as none is.
func TestParseNumbers(t *testing.T) {
	wrong := []string{"x", "-1", "-0", "00", "07", "+1", "1x", "0x1", "1.", "1099511627777", "18446744073709551618", "\u0661", "--1", "-", "1_0"}
	for at, line := range sampleLines()[:sampleNames] {
		words := strings.Fields(line)
		for i := range words {
			if words[i] == "aag" {
				continue
			}
			for _, number := range wrong {
				other := slices.Clone(words)
				other[i] = number
				refused(t, replaced(at, strings.Join(other, " ")), at, api.ErrSyntax)
			}
		}
	}
	for _, number := range wrong {
		refused(t, replaced(sampleNames, "i"+number+" request"), sampleNames, api.ErrSyntax)
	}
}

// A Reset of 0 is not written out.
func TestParseReset(t *testing.T) {
	latch := func(line string) string { return "aag 1 0 1 0 0 0 0\n" + line + "\n" }
	refused(t, latch("2 2 0"), 1, api.ErrSyntax)
	refused(t, latch("2 2 00"), 1, api.ErrSyntax)
	refused(t, latch("2 2 1 0"), 1, api.ErrSyntax)
	refused(t, latch("2"), 1, api.ErrSyntax)
	refused(t, latch("2 2 3"), 2, api.ErrState)
	refused(t, latch("2 2 4"), 2, api.ErrState)
	read(t, latch("2 2"), api.Circuit{Max: 1, Latches: []api.Latch{{Lit: 2, Next: 2}}}, 2)
	read(t, latch("2 2 1"), api.Circuit{Max: 1, Latches: []api.Latch{{Lit: 2, Next: 2, Reset: 1}}}, 2)
	read(t, latch("2 2 2"), api.Circuit{Max: 1, Latches: []api.Latch{{Lit: 2, Next: 2, Reset: 2}}}, 2)
	refused(t, replaced(3, "10 15 0"), 3, api.ErrSyntax)
}

func TestParseNames(t *testing.T) {
	wrong := []string{
		"", " ", "i", "i0", "i0 ", " i0 x", "i0  x", "i0 x ", "i0 x y", "i 0 x", "i x", "0 x", "0i x", "i-1 x", "i00 x", "i0x x", "i1099511627777 x", "ii0 x", "il0 x",
		"a0 x", "I0 x", "C0 x", "j0 x", "f0 x", "z0 x", "x x", " c", "c ", "c c", "cc", "c0", "C", "c\r", "c\t", "\tc", "c\x00", "\xff0 x", "\u00ed0 x", "\x000 x",
	}
	for _, line := range wrong {
		refused(t, replaced(sampleNames, line), sampleNames, api.ErrSyntax)
		refused(t, replaced(sampleNames+3, line), sampleNames+3, api.ErrSyntax)
		refused(t, replaced(sampleEnd-1, line), sampleEnd-1, api.ErrSyntax)
		refused(t, nothing+line+"\n", 1, api.ErrSyntax)
	}
}

// Names that have the form, of circuits that may not be.
func TestParseOddNames(t *testing.T) {
	odd := []string{
		"i2 x", "i1099511627776 x", "l3 x", "o1 x", "b4 x", "c5 x",
		"i0 " + strings.Repeat("x", api.MaxName+1), "i0 \xff", "i0 x\ty", "i0 \x7f", "i0 x\r", "i0 x\x00", "i0 \u00e9",
		"i1 !", "l0 ~", "c0 x",
	}
	for _, line := range odd {
		refused(t, replaced(sampleNames, line), sampleEnd, api.ErrState)
	}
	refused(t, sampleText()+"c4 c4\n", sampleEnd+1, api.ErrState)
	refused(t, sampleText()+"i0 x\n", sampleEnd+1, api.ErrState)
}

// A line of a single c behind the ands ends the text, and is none of the lines that count.
func TestParseComment(t *testing.T) {
	for n := sampleNames; n <= sampleEnd; n++ {
		want := sample()
		want.Names = want.Names[:n-sampleNames]
		begin := textOf(sampleLines()[:n]...) + "c\n"
		for _, rest := range []string{"", "c", "c\n", "x", "x\n", "\n\n\n", "i0 request\n", " ", "\x00\xff", "c4 c4\nc\n", sampleText(), textOf(sampleLines()[n:]...)} {
			read(t, begin+rest, want, n)
		}
	}
	read(t, nothing+"c\n", api.Circuit{}, 1)
	read(t, nothing+"c\nc\nc\n", api.Circuit{}, 1)
}

// Ahead of the names, a single c is none.
func TestParseCommentTooEarly(t *testing.T) {
	for n := range sampleNames {
		refused(t, textOf(sampleLines()[:n]...)+"c\n", n, api.ErrSyntax)
		refused(t, textOf(sampleLines()[:n]...)+"c\n"+textOf(sampleLines()[n:]...), n, api.ErrSyntax)
	}
}

// Circuits that may not be have a form, and their lines count, up to a single c and without it.
func TestParseState(t *testing.T) {
	wrong := []string{
		"aag 2049 0 0 0 0 0 0\n", "aag 1099511627776 0 0 0 0 0 0\n",
		"aag 0 1 0 0 0 0 0\n2\n", "aag 1 1 0 0 0 0 0\n3\n", "aag 1 1 0 0 0 0 0\n0\n", "aag 1 2 0 0 0 0 0\n2\n2\n",
		"aag 0 0 1 0 0 0 0\n2 2\n", "aag 1 0 1 0 0 0 0\n2 4\n", "aag 1 0 1 0 0 0 0\n1 0\n",
		"aag 0 0 0 1 0 0 0\n2\n", "aag 1 0 0 0 0 1 0\n2\n", "aag 1 0 0 0 0 0 1\n1099511627776\n",
		"aag 1 0 0 0 1 0 0\n2 2 0\n", "aag 1 0 0 0 1 0 0\n2 0 3\n", "aag 2 0 0 0 2 0 0\n4 0 0\n2 0 0\n",
		"aag 0 0 0 65 0 0 0\n" + strings.Repeat("0\n", 65),
		"aag 0 0 0 0 0 0 0\ni0 x\n", "aag 0 0 0 0 0 0 1\n0\nc0 x\nc0 x\n",
	}
	for _, text := range wrong {
		lines := strings.Count(text, "\n")
		refused(t, text, lines, api.ErrState)
		refused(t, text+"c\n", lines, api.ErrState)
		refused(t, text+"c\nx\n\nx", lines, api.ErrState)
	}
	read(t, "aag 0 0 0 64 0 0 0\n"+strings.Repeat("0\n", 64), api.Circuit{Outputs: make([]int, 64)}, 65)
}

// Lines are read one by one: the first fault counts, and what the circuit is comes last.
func TestParseOrder(t *testing.T) {
	refused(t, "x\nx", 0, api.ErrSyntax)
	refused(t, "x\n", 0, api.ErrSyntax)
	refused(t, "aag 2049 1 0 0 0 0 0\n", 1, api.ErrShort)
	refused(t, "aag 2049 1 0 0 0 0 0\nx\n", 1, api.ErrSyntax)
	refused(t, "aag 2049 1 0 0 0 0 0\n3\nz0 x\n", 2, api.ErrSyntax)
	refused(t, "aag 2049 1 0 0 0 0 0\n3\nx", 2, api.ErrShort)
	refused(t, "aag 2049 1 0 0 0 0 0\n3\nc", 2, api.ErrShort)
	refused(t, "aag 1 2 0 0 0 0 0\nx\n", 1, api.ErrSyntax)
	refused(t, "aag 1 2 0 0 0 0 0\n2\n", 2, api.ErrShort)
	refused(t, "aag 0 0 0 0 0 0 0\nx\nx\nx", 1, api.ErrSyntax)
	refused(t, "aag 0 0 0 0 0 0\nx\n", 0, api.ErrSyntax)
	refused(t, "aag 1099511627776 1 0 0 0 0 0\n1099511627777\n", 1, api.ErrSyntax)
}

// The bads' and invars' lines stand ahead of the ands', though the header tells of the ands ahead of them.
func TestParseOrderOfParts(t *testing.T) {
	text := "aag 6 1 2 1 1 2 3\n2\n4 12\n6 7 1\n12\n0\n1\n2\n4\n6\n12 4 7\n"
	want := api.Circuit{
		Max: 6, Inputs: []int{2}, Latches: []api.Latch{{Lit: 4, Next: 12}, {Lit: 6, Next: 7, Reset: 1}},
		Outputs: []int{12}, Bads: []int{0, 1}, Invars: []int{2, 4, 6}, Ands: []api.And{{Lit: 12, Left: 4, Right: 7}},
	}
	read(t, text, want, 11)
	if got, e := aag.Print(want); got != text || e != api.OK {
		t.Errorf("P4.1: Print(%v) = %q, %d", want, got, e)
	}
	refused(t, "aag 6 1 2 1 1 2 3\n2\n4 12\n6 7 1\n12\n12 4 7\n0\n1\n2\n4\n6\n", 5, api.ErrSyntax)
}

// checkAnswer holds what Parse tells of any text against what each answer has to be.
func checkAnswer(t *testing.T, text string) {
	t.Helper()
	c, n, e := aag.Parse(text)
	lines := strings.SplitAfter(text, "\n")
	switch e {
	case api.OK:
		if back, f := aag.Print(c); f != api.OK || back != strings.Join(lines[:n], "") {
			t.Errorf("P4.2: the text %q comes back as %q, %d", text, back, f)
		}
		if rest := strings.Join(lines[n:], ""); rest != "" && !strings.HasPrefix(rest, "c\n") {
			t.Errorf("P4.1: Parse(%q) = %d, and no single c stands there", text, n)
		}
	case api.ErrShort:
		if n != strings.Count(text, "\n") {
			t.Errorf("P4.1: Parse(%q) is short at %d", text, n)
		}
	case api.ErrSyntax, api.ErrState:
		if n < 0 || n > strings.Count(text, "\n") || e == api.ErrState && n == 0 {
			t.Errorf("P4.1: Parse(%q) = %d, %d", text, n, e)
		}
	case api.ErrLong:
		if n != 0 || len(text) <= api.MaxText {
			t.Errorf("P4.1: Parse of %d octets = %d, ErrLong", len(text), n)
		}
	default:
		t.Errorf("P4.1: Parse(%q) = %d", text, e)
	}
	if e != api.OK && !reflect.DeepEqual(c, api.Circuit{}) {
		t.Errorf("P4: Parse(%q) tells %v beside an error", text, c)
	}
}

// P1, P4.2: the sample's text with one octet changed, put in, or left out.
func TestParseOfChangedTexts(t *testing.T) {
	text := sampleText()
	for at := range len(text) {
		checkAnswer(t, text[:at]+text[at+1:])
		for _, b := range []byte("\x00\n\r\t -+019acilobx\x7f\xff") {
			checkAnswer(t, text[:at]+string([]byte{b})+text[at+1:])
			checkAnswer(t, text[:at]+string([]byte{b})+text[at:])
		}
	}
}

// P1: whatever comes in, each call answers.
func TestOddTexts(t *testing.T) {
	var all strings.Builder
	for b := range 256 {
		all.WriteByte(byte(b))
	}
	for _, s := range []string{"\x00", "\xff\xfe", all.String(), nothing + all.String(), strings.Repeat("c\n", 1<<15), nothing + strings.Repeat("c", 60000) + "\n", strings.Repeat("aag 0 ", 9999), nothing + strings.Repeat("\n", 60000)} {
		checkAnswer(t, s)
	}
	for _, n := range []int{math.MaxInt, math.MinInt, 1 << 40} {
		checkAnswer(t, "aag "+strings.Repeat(strconv.Itoa(n)+" ", 6)+strconv.Itoa(n)+"\n")
	}
}
