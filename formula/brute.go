package formula

import (
	"iter"
	"slices"
	"strings"

	"interlock/api"
)

// mostTried is of how many variables all models are gone through.
const mostTried = 14

// The signs of a bit.
const (
	zero = '0'
	one  = '1'
)

// sides are the variables that a clause has, and those whose opposites it has, as bits, the last variable's the lowest.
type sides struct {
	is, not int
}

// sidesOf takes a clause of variables from 1 to vars apart.
func sidesOf(vars int, l []int) sides {
	var s sides
	for _, n := range l {
		bit := 1 << (vars - variable(n))
		if n > 0 {
			s.is |= bit
		} else {
			s.not |= bit
		}
	}
	return s
}

// harmed hands out the models, of all those bits, that make the clause false.
func (s sides) harmed(bits int) iter.Seq[int] {
	return func(yield func(m int) bool) {
		// What has a variable's both is always true.
		if s.is&s.not != 0 {
			return
		}
		others := bits &^ (s.is | s.not)
		for rest := others; yield(s.not|rest) && rest != 0; {
			rest = (rest - 1) & others
		}
	}
}

// Brute is the least model of the formula, if there is one.
func Brute(f api.Formula) (string, bool, api.Errno) {
	if e := Check(f); e != api.OK {
		return "", false, e
	}
	if f.Vars > mostTried {
		return "", false, api.ErrLong
	}
	least := slices.Index(ruledOut(f), false)
	if least < 0 {
		return "", false, api.OK
	}
	return text(f.Vars, least), true, api.OK
}

// ruledOut tells of each model whether it makes a clause false. Few clauses of few variables differ, so they are gone through, and not, model by model, all clauses.
func ruledOut(f api.Formula) []bool {
	out := make([]bool, 1<<f.Vars)
	met := map[sides]struct{}{}
	for _, l := range f.Clauses {
		s := sidesOf(f.Vars, l)
		if _, again := met[s]; again {
			continue
		}
		met[s] = struct{}{}
		for m := range s.harmed(len(out) - 1) {
			out[m] = true
		}
	}
	return out
}

// text is the bits of so many variables, the lowest one last.
func text(vars, bits int) string {
	var s strings.Builder
	for at := range vars {
		if bits>>(vars-1-at)&1 == 1 {
			s.WriteByte(one)
		} else {
			s.WriteByte(zero)
		}
	}
	return s.String()
}
