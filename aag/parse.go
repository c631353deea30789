package aag

import (
	"slices"
	"strings"

	"interlock/api"
	"interlock/circuit"
	"interlock/digits"
)

const (
	// kinds are what names may be of, an octet each.
	kinds = "ilobc"
	// comment is the line at which the reading ends.
	comment = "c"
)

// fault is what a text that is no circuit's makes a reading panic with.
type fault struct {
	at   int
	told api.Errno
}

// source hands out the lines of a text, one after the other.
type source struct {
	lines []string
	// whole is how many lines have their line feed: all, or all but the last.
	whole int
	// at is the place of the line at hand, and so how many were taken.
	at int
}

// reader reads the parts of a circuit.
type reader struct {
	source
}

// sizes is what a header tells.
type sizes struct {
	most, inputs, latches, outputs, ands, bads, invars int
}

// Parse reads what Print writes, up to a line of a single c; it tells how many lines stand ahead of that c, or where the fault is.
func Parse(s string) (c api.Circuit, lines int, told api.Errno) {
	if len(s) > api.MaxText {
		return api.Circuit{}, 0, api.ErrLong
	}
	defer func() {
		if met := recover(); met != nil {
			wrong := met.(fault)
			c, lines, told = api.Circuit{}, wrong.at, wrong.told
		}
	}()
	r := reader{source{lines: digits.Lines(s), whole: strings.Count(s, newline)}}
	c = r.circuit()
	if e := circuit.Check(c); e != api.OK {
		r.refuse(e)
	}
	return c, r.at, api.OK
}

// refuse ends the reading at the line at hand.
func (s *source) refuse(told api.Errno) {
	panic(fault{s.at, told})
}

// need refuses the line at hand where its form is another.
func (s *source) need(so bool) {
	if !so {
		s.refuse(api.ErrSyntax)
	}
}

// line is the line at hand; one that lacks its line feed is refused before its form is looked at.
func (s *source) line() string {
	if s.at >= s.whole {
		s.refuse(api.ErrShort)
	}
	return s.lines[s.at]
}

// take goes on to the next line.
func (s *source) take() {
	s.at++
}

// ended tells whether nothing is left, not even a line that lacks its line feed.
func (s *source) ended() bool {
	return s.at >= len(s.lines)
}

// words are those of the line at hand, as many as one of counts says.
func (s *source) words(counts ...int) []string {
	line := s.line()
	words := digits.Words(line)
	s.need(slices.Contains(counts, len(words)))
	// Words pass over blanks that are too many; put together again they show them.
	s.need(digits.Join(words...) == line)
	return words
}

// number reads a word of the line at hand.
func (s *source) number(word string) int {
	n, e := digits.Parse(word)
	s.need(e == api.OK && n >= 0)
	return n
}

// numbers takes a line of so many numbers.
func (s *source) numbers(count int) []int {
	var list []int
	for _, word := range s.words(count) {
		list = append(list, s.number(word))
	}
	s.take()
	return list
}

// circuit reads all parts, in the order of their lines.
func (r *reader) circuit() api.Circuit {
	n := r.header()
	c := api.Circuit{Max: n.most}
	c.Inputs = r.literals(n.inputs)
	c.Latches = r.latches(n.latches)
	c.Outputs = r.literals(n.outputs)
	c.Bads = r.literals(n.bads)
	c.Invars = r.literals(n.invars)
	c.Ands = r.ands(n.ands)
	c.Names = r.names()
	return c
}

// header takes the first line.
func (r *reader) header() sizes {
	words := r.words(8)
	r.need(words[0] == format)
	var n [7]int
	for i := range len(n) {
		n[i] = r.number(words[1+i])
	}
	r.take()
	return sizes{n[0], n[1], n[2], n[3], n[4], n[5], n[6]}
}

// literals takes n lines of a literal. Here and below the list grows line by line: a header may tell of more than there is.
func (r *reader) literals(n int) []int {
	var list []int
	for range n {
		list = append(list, r.numbers(1)[0])
	}
	return list
}

// latches takes n lines of latches.
func (r *reader) latches(n int) []api.Latch {
	var list []api.Latch
	for range n {
		list = append(list, r.latch())
	}
	return list
}

// latch takes the line of a latch; a Reset of 0 must not be written out, as a circuit would have two texts.
func (r *reader) latch() api.Latch {
	words := r.words(2, 3)
	latch := api.Latch{Lit: r.number(words[0]), Next: r.number(words[1])}
	if len(words) == 3 {
		latch.Reset = r.number(words[2])
		r.need(latch.Reset != 0)
	}
	r.take()
	return latch
}

// ands takes n lines of ands.
func (r *reader) ands(n int) []api.And {
	var list []api.And
	for range n {
		l := r.numbers(3)
		list = append(list, api.And{Lit: l[0], Left: l[1], Right: l[2]})
	}
	return list
}

// names takes all lines that are left, or those up to a single c; that one is left, as it is none of the circuit's and does not count.
func (r *reader) names() []api.Name {
	var list []api.Name
	for !r.ended() && r.line() != comment {
		list = append(list, r.name())
	}
	return list
}

// name takes the line of a name.
func (r *reader) name() api.Name {
	words := r.words(2)
	kind, at := words[0][:1], words[0][1:]
	r.need(strings.Contains(kinds, kind))
	name := api.Name{Kind: kind, At: r.number(at), Text: words[1]}
	r.take()
	return name
}
