package digits_test

import (
	"math"
	"slices"
	"strings"
	"sync"
	"testing"
	"unsafe"

	"interlock/api"
	"interlock/digits"
)

const edge = 1 << 40

func TestPrint(t *testing.T) {
	cases := []struct {
		n    int
		want string
	}{
		{0, "0"},
		{7, "7"},
		{-1, "-1"},
		{10, "10"},
		{-120, "-120"},
		{edge, "1099511627776"},
		{-edge, "-1099511627776"},
		{edge + 1, "1099511627777"},
		{math.MaxInt64, "9223372036854775807"},
		{math.MinInt64, "-9223372036854775808"},
	}
	for _, c := range cases {
		if got := digits.Print(c.n); got != c.want {
			t.Errorf("P1.1: Print(%d) = %q, want %q", c.n, got, c.want)
		}
	}
}

type parseCase struct {
	s    string
	n    int
	want api.Errno
}

func checkParse(t *testing.T, cases []parseCase) {
	t.Helper()
	for _, c := range cases {
		if n, e := digits.Parse(c.s); n != c.n || e != c.want {
			t.Errorf("P1.1: Parse(%.40q) = %d, %d, want %d, %d", c.s, n, e, c.n, c.want)
		}
	}
}

func TestParseNumbers(t *testing.T) {
	checkParse(t, []parseCase{
		{"0", 0, api.OK},
		{"7", 7, api.OK},
		{"-7", -7, api.OK},
		{"10", 10, api.OK},
		{"-1203", -1203, api.OK},
		{"1099511627775", edge - 1, api.OK},
		{"1099511627776", edge, api.OK},
		{"-1099511627776", -edge, api.OK},
	})
}

func TestParseSyntax(t *testing.T) {
	wrong := []string{
		"", "-", "--1", "+", "+1", "1-", "1-2", "-+1", "07", "-07", "00", "-0", "-00", "000000000000000000000",
		" ", " 1", "1 ", "1\n", "1\r", "\t1", "- 1", "1 2", "a", "1a", "a1", "0x1", "1e3", "1.0", "1_000", "\x00", "1\x00",
		"\xff", "1\xff", "/", ":", "1/", "1:", "\u0661", "\uff11", "\u22121",
	}
	for _, s := range wrong {
		checkParse(t, []parseCase{{s, 0, api.ErrSyntax}})
	}
}

func TestParseRange(t *testing.T) {
	many := strings.Repeat("9", 1<<20)
	checkParse(t, []parseCase{
		{"1099511627777", 0, api.ErrRange},
		{"-1099511627777", 0, api.ErrRange},
		{"10995116277760", 0, api.ErrRange},
		{"9223372036854775808", 0, api.ErrRange},
		{"-9223372036854775809", 0, api.ErrRange},
		// 2^64, and 2^64 + 5, are 0 and 5 to a number of 64 bits that runs over.
		{"18446744073709551616", 0, api.ErrRange},
		{"18446744073709551621", 0, api.ErrRange},
		{"-18446744073709551621", 0, api.ErrRange},
		{many, 0, api.ErrRange},
		{"-" + many, 0, api.ErrRange},
		{"1" + strings.Repeat("0", 1<<20), 0, api.ErrRange},
	})
}

// The syntax goes ahead of the range, wherever in the text the fault lies.
func TestParseOrder(t *testing.T) {
	many := strings.Repeat("9", 1<<20)
	checkParse(t, []parseCase{
		{many + "x", 0, api.ErrSyntax},
		{"-" + many + "-", 0, api.ErrSyntax},
		{"0" + many, 0, api.ErrSyntax},
		{"-0" + many, 0, api.ErrSyntax},
		{"1099511627777 ", 0, api.ErrSyntax},
		{"01099511627776", 0, api.ErrSyntax},
	})
}

type listCase struct {
	s    string
	want []string
}

func checkLists(t *testing.T, name string, call func(string) []string, cases []listCase) {
	t.Helper()
	for _, c := range cases {
		if got := call(c.s); !slices.Equal(got, c.want) {
			t.Errorf("P1.2: %s(%q) = %q, want %q", name, c.s, got, c.want)
		}
	}
}

func TestWords(t *testing.T) {
	checkLists(t, "Words", digits.Words, []listCase{
		{"", nil},
		{" ", nil},
		{"     ", nil},
		{"a", []string{"a"}},
		{"prove -1 2", []string{"prove", "-1", "2"}},
		{"  a   b ", []string{"a", "b"}},
		{"a b\n", []string{"a", "b\n"}},
		{"a\tb\nc\rd\ve\ff\x00g", []string{"a\tb\nc\rd\ve\ff\x00g"}},
		{"\t", []string{"\t"}},
		{"a\u00a0b\u2003c\u0120", []string{"a\u00a0b\u2003c\u0120"}},
		{"\xff \xc3 \x80\xe2 \x80", []string{"\xff", "\xc3", "\x80\xe2", "\x80"}},
	})
}

func TestJoin(t *testing.T) {
	cases := []struct {
		l    []string
		want string
	}{
		{nil, ""},
		{[]string{}, ""},
		{[]string{""}, ""},
		{[]string{"a"}, "a"},
		{[]string{"a", "b"}, "a b"},
		{[]string{"prove", "-1", "2"}, "prove -1 2"},
		{[]string{"", ""}, " "},
		{[]string{"", "a", "", "b", ""}, " a  b "},
		{[]string{"a b", "\n", "\xff"}, "a b \n \xff"},
	}
	for _, c := range cases {
		if got := digits.Join(c.l...); got != c.want {
			t.Errorf("P1.2: Join(%q) = %q, want %q", c.l, got, c.want)
		}
	}
}

func TestLines(t *testing.T) {
	checkLists(t, "Lines", digits.Lines, []listCase{
		{"", nil},
		{"\n", []string{""}},
		{"\n\n", []string{"", ""}},
		{"a", []string{"a"}},
		{"a\n", []string{"a"}},
		{"a\nb", []string{"a", "b"}},
		{"a\nb\n", []string{"a", "b"}},
		{"a\n\nb\n\n", []string{"a", "", "b", ""}},
		{"\na", []string{"", "a"}},
		{"a\n ", []string{"a", " "}},
		{"a\r\nb\r", []string{"a\r", "b\r"}},
		{" a  b \n\tc", []string{" a  b ", "\tc"}},
		{"a\x0b\x0c\x85\u2028b", []string{"a\x0b\x0c\x85\u2028b"}},
		{"\xff\n\xc3\n\x80", []string{"\xff", "\xc3", "\x80"}},
	})
}

// Words and lines come back, too, from what was put together of them.
func TestWordsAndLinesComeBack(t *testing.T) {
	words := []string{"a", "-1", "\xff", "x\ty", "0"}
	if got := digits.Words(digits.Join(words...)); !slices.Equal(got, words) {
		t.Errorf("P1.2: Words of Join of %q = %q", words, got)
	}
	lines := []string{"", "a b", " ", "", "\xff"}
	if got := digits.Lines(strings.Join(lines, "\n") + "\n"); !slices.Equal(got, lines) {
		t.Errorf("P1.2: Lines of %q = %q", lines, got)
	}
}

func checkComesBack(t *testing.T, n int) {
	t.Helper()
	if got, e := digits.Parse(digits.Print(n)); got != n || e != api.OK {
		t.Errorf("P1.3: Parse(Print(%d)) = %d, %d", n, got, e)
	}
}

func TestNumbersComeBack(t *testing.T) {
	for n := -2000; n <= 2000; n++ {
		checkComesBack(t, n)
	}
	for at := 1; at <= edge; at *= 2 {
		for _, n := range []int{at - 1, at, at + 1} {
			if n <= edge {
				checkComesBack(t, n)
				checkComesBack(t, -n)
			}
		}
	}
	for at := 1; at <= edge; at *= 10 {
		checkComesBack(t, at-1)
		checkComesBack(t, at)
		checkComesBack(t, -at)
	}
}

// A text that is read as a number is the text that is printed of it.
func TestTextsComeBack(t *testing.T) {
	parts := []string{"", "-", "0", "1", "9", "x", " "}
	for _, a := range parts {
		for _, b := range parts {
			for _, c := range parts {
				s := a + b + c
				if n, e := digits.Parse(s); e == api.OK && digits.Print(n) != s {
					t.Errorf("P1.3: Parse(%q) = %d", s, n)
				}
			}
		}
	}
}

// within tells whether the text lies in the memory of the other one.
func within(s, whole string) bool {
	if s == "" || whole == "" {
		return false
	}
	at := uintptr(unsafe.Pointer(unsafe.StringData(s)))
	begin := uintptr(unsafe.Pointer(unsafe.StringData(whole)))
	return begin <= at && at < begin+uintptr(len(whole))
}

func TestTextsAreNewMemory(t *testing.T) {
	text := strings.Repeat("latch  and\nbad ", 3)
	for _, w := range append(digits.Words(text), digits.Lines(text)...) {
		if within(w, text) {
			t.Errorf("P1.4: %q lies in the text that was handed in", w)
		}
	}
	whole := strings.Repeat("x", 9)
	for _, f := range []func(string) []string{digits.Words, digits.Lines} {
		if got := f(whole); len(got) != 1 || within(got[0], whole) {
			t.Errorf("P1.4: %q, of one piece, lies in the text that was handed in", got)
		}
	}
	for _, l := range [][]string{{whole}, {whole, "y"}, {"", whole}} {
		if within(digits.Join(l...), whole) {
			t.Errorf("P1.4: Join(%q) lies in a text that was handed in", l)
		}
	}
}

func TestListsAreNewMemory(t *testing.T) {
	for _, f := range []func(string) []string{digits.Words, digits.Lines} {
		text := "a b\nc d\n"
		first, second := f(text), f(text)
		kept := slices.Clone(second)
		for i := range first[:cap(first)] {
			first[:cap(first)][i] = "spoilt"
		}
		if third := f(text); !slices.Equal(second, kept) || !slices.Equal(third, kept) {
			t.Errorf("P1.4: two answers share memory: %q, %q, want %q", second, third, kept)
		}
	}
}

func TestJoinLeavesItsList(t *testing.T) {
	whole := []string{"a", "", "b", "behind"}
	kept := slices.Clone(whole)
	if got := digits.Join(whole[:3]...); got != "a  b" {
		t.Errorf("P1.2: Join of a part of a list = %q", got)
	}
	if !slices.Equal(whole, kept) {
		t.Errorf("P1.4: Join changed its list to %q", whole)
	}
}

// odd is texts that no one writes.
func odd() []string {
	var all strings.Builder
	for b := 0; b < 256; b++ {
		all.WriteByte(byte(b))
	}
	return []string{
		"", "\x00", "\xff\xfe\x80", all.String(),
		strings.Repeat(" ", 1<<20), strings.Repeat("\n", 1<<20), strings.Repeat("-", 1<<20), strings.Repeat("0", 1<<20), strings.Repeat("\xff ", 1<<18),
	}
}

// P1 and P4: whatever comes in, each call answers, and beside an error with 0.
func TestOddTexts(t *testing.T) {
	for _, s := range odd() {
		if n, e := digits.Parse(s); n != 0 || e != api.ErrSyntax {
			t.Errorf("P1.1: Parse(%.20q) = %d, %d", s, n, e)
		}
		if got := digits.Words(s); slices.Contains(got, "") || strings.Join(got, "") != strings.ReplaceAll(s, " ", "") {
			t.Errorf("P1.2: Words(%.20q) lost something", s)
		}
		got := digits.Lines(s)
		if strings.Join(got, "\n") != strings.TrimSuffix(s, "\n") {
			t.Errorf("P1.2: Lines(%.20q) lost something", s)
		}
		if want := strings.Count(s, "\n"); !strings.HasSuffix(s, "\n") && s != "" {
			if len(got) != want+1 {
				t.Errorf("P1.2: Lines(%.20q) are %d", s, len(got))
			}
		} else if len(got) != want {
			t.Errorf("P1.2: Lines(%.20q) are %d", s, len(got))
		}
	}
}

// P3: the answers hang on the arguments, however many ask at a time.
func TestSameAnswers(t *testing.T) {
	var asked sync.WaitGroup
	for w := range 8 {
		asked.Add(1)
		go func() {
			defer asked.Done()
			for n := w * 1000; n < w*1000+1000; n++ {
				s := digits.Join(digits.Print(n), digits.Print(-n-1))
				l := digits.Words(s)
				if len(l) != 2 || len(digits.Lines(s)) != 1 {
					t.Errorf("P3: Words(%q) = %q", s, l)
					return
				}
				a, e := digits.Parse(l[0])
				b, f := digits.Parse(l[1])
				if a != n || b != -n-1 || e != api.OK || f != api.OK {
					t.Errorf("P3: %q is read as %d, %d", s, a, b)
				}
			}
		}()
	}
	asked.Wait()
}
