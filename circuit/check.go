package circuit

import (
	"slices"

	"interlock/api"
	"interlock/lits"
)

// The octets that a name's text may have.
const (
	firstOctet = 33
	lastOctet  = 126
)

// fault is what a circuit that may not be makes a check panic with.
type fault struct {
	told api.Errno
}

// need panics where what a circuit must keep to is not so.
func need(so bool) {
	if !so {
		panic(fault{api.ErrState})
	}
}

// Check tells whether the circuit may be.
func Check(c api.Circuit) (told api.Errno) {
	defer func() {
		if met := recover(); met != nil {
			told = met.(fault).told
		}
	}()
	needSizes(c)
	named := needNamed(needDefined(c))
	needLatches(c, named)
	needAnds(c, named)
	for _, list := range [][]int{c.Outputs, c.Bads, c.Invars} {
		for _, l := range list {
			named(l)
		}
	}
	needNames(c)
	return api.OK
}

// needSizes looks at Max, and at how many pins there are of each kind.
func needSizes(c api.Circuit) {
	need(0 <= c.Max && c.Max <= api.MaxVar)
	for _, pins := range []int{len(c.Inputs), len(c.Latches), len(c.Outputs), len(c.Bads), len(c.Invars)} {
		need(pins <= api.MaxPins)
	}
}

// needDefined looks at the literals that stand for what they are alone, and tells their variables, with that of false.
func needDefined(c api.Circuit) map[int]struct{} {
	// False is there in every circuit, so no other one may be it.
	met := map[int]struct{}{0: {}}
	define := func(l int) {
		need(lits.Check(c.Max, l) == api.OK && !lits.Neg(l))
		_, twice := met[lits.Var(l)]
		need(!twice)
		met[lits.Var(l)] = struct{}{}
	}
	for _, l := range c.Inputs {
		define(l)
	}
	for _, latch := range c.Latches {
		define(latch.Lit)
	}
	for _, and := range c.Ands {
		define(and.Lit)
	}
	return met
}

// needNamed makes the look at literals that are named: each is of a variable that was met.
func needNamed(met map[int]struct{}) func(l int) {
	return func(l int) {
		_, ok := met[lits.Var(l)]
		// Here a number below 0 does not count as 0.
		need(ok && l >= 0)
	}
}

// needLatches looks at what latches are next, and at first.
func needLatches(c api.Circuit, named func(l int)) {
	for _, latch := range c.Latches {
		named(latch.Next)
		need(latch.Reset == 0 || latch.Reset == 1 || latch.Reset == latch.Lit)
	}
}

// needAnds looks at the ands' order, and at what they are made of.
func needAnds(c api.Circuit, named func(l int)) {
	last := 0
	for _, and := range c.Ands {
		need(last < and.Lit && and.Left < and.Lit && and.Right < and.Lit)
		named(and.Left)
		named(and.Right)
		last = and.Lit
	}
}

// needNames looks at the names, and at their order, by their kinds first.
func needNames(c api.Circuit) {
	rank, at := 0, -1
	for _, name := range c.Names {
		kind := rankOf(name.Kind)
		need(kind > rank || kind == rank && name.At > at)
		count, _ := pins(c, name.Kind)
		need(0 <= name.At && name.At < count)
		needText(name.Text)
		rank, at = kind, name.At
	}
}

// rankOf is where names of a kind stand among those of others; a kind that is none stands ahead of the first, where no name may.
func rankOf(kind string) int {
	kinds := []string{"i", "l", "o", "b", "c"}
	return slices.Index(kinds, kind)
}

// needText looks at a name's text.
func needText(s string) {
	need(0 < len(s) && len(s) <= api.MaxName)
	for _, b := range []byte(s) {
		need(firstOctet <= b && b <= lastOctet)
	}
}
