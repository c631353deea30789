package sat

import "interlock/trail"

// literal is a literal as the document has it: a variable's number from 1 on, or that number below 0. There may be millions of them, so each takes half of an int.
type literal int32

// spot is where stands what is kept of each literal: 2 v of variable v, and 2 v less 1 of not v.
func (l literal) spot() int {
	return int(l<<1 ^ l>>31)
}

// variable is the literal's variable.
func (l literal) variable() int {
	return int(max(l, -l))
}

// The bits of a literal.
const (
	isFalse int8 = iota - 1
	isFree
	isTrue
)

// board is what is set. Bits stand beside the trail, as they are asked for more than all else; and of each variable the literal that was set last, which is tried first.
type board struct {
	*trail.Trail
	bits []int8
	last []literal
	done int
}

// newBoard is a board of no variables.
func newBoard() board {
	return board{Trail: trail.New(0), bits: make([]int8, 1), last: make([]literal, 1)}
}

// widen makes n variables more.
func (b *board) widen(n int) {
	b.Grow(n)
	b.bits = append(b.bits, make([]int8, 2*n)...)
	for range n {
		b.last = append(b.last, -literal(len(b.last)))
	}
}

// bit tells whether a literal is true, false or free.
func (b *board) bit(l literal) int8 {
	return b.bits[l.spot()]
}

// holds tells whether a literal is true.
func (b *board) holds(l literal) bool {
	return b.bit(l) == isTrue
}

// fails tells whether a literal is false.
func (b *board) fails(l literal) bool {
	return b.bit(l) == isFalse
}

// set makes a literal true that is free. The reason is the place of the clause from which it follows, or none.
func (b *board) set(l literal, reason int) {
	b.Put(int(l), reason)
	b.bits[l.spot()] = isTrue
	b.bits[(-l).spot()] = isFalse
}

// levelOf is the level at which a literal's variable was set.
func (b *board) levelOf(l literal) int {
	return b.Level(l.variable())
}

// reasonOf is why a literal's variable was set.
func (b *board) reasonOf(l literal) int {
	return b.Reason(l.variable())
}

// undo goes back to a level, and hands on the variables that were set above it.
func (b *board) undo(level int, hand func(v int)) {
	for at := b.Len() - 1; at >= 0; at-- {
		l := literal(b.At(at))
		if b.levelOf(l) <= level {
			break
		}
		b.bits[l.spot()], b.bits[(-l).spot()] = isFree, isFree
		b.last[l.variable()] = l
		hand(l.variable())
	}
	b.Back(level)
	b.done = min(b.done, b.Len())
}
