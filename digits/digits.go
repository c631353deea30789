// Package digits is layer 1: see shared/doc/01-digits.md.
package digits

import (
	"strconv"
	"strings"

	"interlock/api"
)

// What parts words, and lines.
const (
	blank   = " "
	newline = "\n"
)

// farthest is how far from 0 a number that is read may lie, either way.
const farthest = 1 << 40

// Print writes n in decimals.
func Print(n int) string {
	return strconv.Itoa(n)
}

// Parse reads what Print writes, and nothing else.
func Parse(s string) (int, api.Errno) {
	digits, negative := strings.CutPrefix(s, "-")
	if !canonical(digits, negative) {
		return 0, api.ErrSyntax
	}
	n, ok := value(digits)
	if !ok {
		return 0, api.ErrRange
	}
	if negative {
		n = -n
	}
	return n, api.OK
}

// canonical tells whether Print could have written these digits, if it knew numbers of any size.
func canonical(digits string, negative bool) bool {
	if digits == "0" {
		return !negative
	}
	if digits == "" || digits[0] == '0' {
		return false
	}
	return every(digits, func(b byte) bool { return '0' <= b && b <= '9' })
}

// value adds the digits up; it stops beyond the range, so that no number of digits runs over an int.
func value(digits string) (int, bool) {
	n := 0
	ok := every(digits, func(b byte) bool {
		n = n*10 + int(b-'0')
		return n <= farthest
	})
	if !ok {
		return 0, false
	}
	return n, true
}

// every looks at the bytes of s in their order, and no further than to the first that is not as asked.
func every(s string, asked func(b byte) bool) bool {
	for i := 0; i < len(s); i++ {
		if !asked(s[i]) {
			return false
		}
	}
	return true
}

// Words lists what stands between blanks, none empty.
func Words(s string) []string {
	return pieces(s, blank, func(piece string, _ bool) bool { return piece != "" })
}

// Join puts one blank between the texts.
func Join(l ...string) string {
	// Not strings.Join: it hands a single text out as it came in, not as new memory.
	var joined strings.Builder
	for i, s := range l {
		if i > 0 {
			joined.WriteString(blank)
		}
		joined.WriteString(s)
	}
	return joined.String()
}

// Lines lists what stands between bytes 10; what is behind the last one only if it is not empty.
func Lines(s string) []string {
	return pieces(s, newline, func(piece string, last bool) bool { return piece != "" || !last })
}

// pieces lists those pieces of s between the ends that are wanted, as copies: none holds on to s.
func pieces(s string, end string, wanted func(piece string, last bool) bool) []string {
	var list []string
	for last := false; !last; {
		piece, rest, found := strings.Cut(s, end)
		last = !found
		if wanted(piece, last) {
			list = append(list, strings.Clone(piece))
		}
		s = rest
	}
	return list
}
