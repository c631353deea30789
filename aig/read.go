package aig

import (
	"bytes"
	"slices"
	"strings"

	"interlock/api"
	"interlock/digits"
	"interlock/lits"
)

// kinds are what names may be of, an octet each.
const kinds = "ilobc"

const (
	// groupBits is how many bits a group has.
	groupBits = 7
	// mostGroups is how many groups the greatest literal there is has.
	mostGroups = 2
)

// fault is what octets that are no circuit's make a reading panic with.
type fault struct {
	told api.Errno
}

// source hands out octets, one after the other, or line by line.
type source struct {
	rest []byte
}

// reader reads the parts of a circuit.
type reader struct {
	source
}

// sizes is what a header tells.
type sizes struct {
	most, inputs, latches, outputs, ands, bads, invars int
}

// Read reads what Write writes, and nothing else.
func Read(b []byte) (c api.Circuit, told api.Errno) {
	if len(b) > api.MaxText {
		return api.Circuit{}, api.ErrLong
	}
	defer func() {
		if met := recover(); met != nil {
			c, told = api.Circuit{}, met.(fault).told
		}
	}()
	r := reader{source{b}}
	c = r.circuit()
	r.need(Ordered(c))
	return c, api.OK
}

// need ends the reading where the octets are other than they may be.
func (s *source) need(so bool) {
	if !so {
		panic(fault{api.ErrSyntax})
	}
}

// ended tells whether nothing is left.
func (s *source) ended() bool {
	return len(s.rest) == 0
}

// octet takes an octet.
func (s *source) octet() byte {
	s.need(!s.ended())
	octet := s.rest[0]
	s.rest = s.rest[1:]
	return octet
}

// number takes a number in groups; more groups than any number of a circuit has are none.
func (s *source) number() int {
	n := 0
	for group := range mostGroups {
		octet := s.octet()
		n += int(octet%more) << (groupBits * group)
		if octet < more {
			// A last group of 0 is not needed, unless it is the only one.
			s.need(octet > 0 || group == 0)
			return n
		}
	}
	s.need(false)
	return 0
}

// words takes a line of as many words as one of counts says.
func (s *source) words(counts ...int) []string {
	begin, rest, found := bytes.Cut(s.rest, []byte{newline})
	s.need(found)
	s.rest = rest
	line := string(begin)
	words := digits.Words(line)
	s.need(slices.Contains(counts, len(words)))
	// Words pass over blanks that are too many; put together again they show them.
	s.need(digits.Join(words...) == line)
	return words
}

// parsed is the number that a word is.
func (s *source) parsed(word string) int {
	n, e := digits.Parse(word)
	s.need(e == api.OK && n >= 0)
	return n
}

// circuit reads all parts, in the order of their octets.
func (r *reader) circuit() api.Circuit {
	n := r.header()
	c := api.Circuit{Max: n.most}
	for i := range n.inputs {
		c.Inputs = append(c.Inputs, literal(i))
	}
	for i := range n.latches {
		c.Latches = append(c.Latches, r.latch(literal(n.inputs+i)))
	}
	c.Outputs = r.literals(n.outputs)
	c.Bads = r.literals(n.bads)
	c.Invars = r.literals(n.invars)
	for i := range n.ands {
		c.Ands = append(c.Ands, r.and(literal(n.inputs+n.latches+i)))
	}
	for !r.ended() {
		c.Names = append(c.Names, r.name())
	}
	return c
}

// literal is that of the variable with so many ahead of it.
func literal(ahead int) int {
	return lits.Make(ahead+1, false)
}

// header takes the first line. What it tells of inputs is held against Max at once: they have no lines that could fall short.
func (r *reader) header() sizes {
	words := r.words(8)
	r.need(words[0] == format)
	var n [7]int
	for i := range len(n) {
		n[i] = r.parsed(words[1+i])
	}
	told := sizes{n[0], n[1], n[2], n[3], n[4], n[5], n[6]}
	r.need(told.most <= api.MaxVar && told.most == told.inputs+told.latches+told.ands)
	return told
}

// latch takes the line of a latch; a Reset of 0 must not be written out, as a circuit would have two forms.
func (r *reader) latch(l int) api.Latch {
	words := r.words(1, 2)
	latch := api.Latch{Lit: l, Next: r.parsed(words[0])}
	if len(words) == 2 {
		latch.Reset = r.parsed(words[1])
		r.need(latch.Reset != 0)
	}
	return latch
}

// literals takes n lines of a literal; the list grows line by line, as a header may tell of more than there is.
func (r *reader) literals(n int) []int {
	var list []int
	for range n {
		list = append(list, r.parsed(r.words(1)[0]))
	}
	return list
}

// and takes the numbers of an and. Where they lead below 0, or nowhere below l, the circuit is not ordered, which is asked at the end.
func (r *reader) and(l int) api.And {
	left := l - r.number()
	right := left - r.number()
	return api.And{Lit: l, Left: left, Right: right}
}

// name takes the line of a name.
func (r *reader) name() api.Name {
	words := r.words(2)
	kind, at := words[0][:1], words[0][1:]
	r.need(strings.Contains(kinds, kind))
	return api.Name{Kind: kind, At: r.parsed(at), Text: words[1]}
}
