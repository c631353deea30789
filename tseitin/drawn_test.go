package tseitin_test

import (
	"reflect"
	"slices"
	"strings"
	"sync"
	"testing"
	"unsafe"

	"interlock/api"
	"interlock/circuit"
	"interlock/formula"
	"interlock/replay"
	"interlock/sim"
	"interlock/tseitin"
)

// chance makes numbers, one after the other, always the same ones.
type chance uint64

func (r *chance) below(n int) int {
	*r = *r*6364136223846793005 + 1442695040888963407
	return int(uint64(*r)>>33) % n
}

func (r *chance) bits(n int) string {
	var s strings.Builder
	for range n {
		s.WriteByte("01"[r.below(2)])
	}
	return s.String()
}

// drawn is a circuit of up to so many variables, some of which are inputs, latches and ands.
func (r *chance) drawn(most int) api.Circuit {
	c := api.Circuit{Max: r.below(most + 1)}
	named := []int{0}
	pick := func() int { return 2*named[r.below(len(named))] + r.below(2) }
	for v := 1; v <= c.Max; v++ {
		switch r.below(6) {
		case 0:
			c.Inputs = append(c.Inputs, 2*v)
		case 1:
			c.Latches = append(c.Latches, api.Latch{Lit: 2 * v, Reset: []int{0, 1, 2 * v}[r.below(3)]})
		case 2, 3, 4:
			c.Ands = append(c.Ands, api.And{Lit: 2 * v, Left: pick(), Right: pick()})
		default:
			continue
		}
		named = append(named, v)
	}
	for i := range c.Latches {
		c.Latches[i].Next = pick()
	}
	slices.Reverse(c.Inputs)
	for range r.below(6) / 2 {
		c.Invars = append(c.Invars, pick())
	}
	c.Bads = append(c.Bads, pick())
	return c
}

// assumed lists clauses of a circuit's literals, now and then an empty one.
func (r *chance) assumed(c api.Circuit) [][]int {
	var all [][]int
	for range r.below(4) {
		var l []int
		for range r.below(16) / 3 {
			l = append(l, r.below(2*c.Max+2))
		}
		all = append(all, l)
	}
	return all
}

// texts lists all texts of so many bits.
func texts(n int) []string {
	list := []string{""}
	for range n {
		var longer []string
		for _, s := range list {
			longer = append(longer, s+"0", s+"1")
		}
		list = longer
	}
	return list
}

// values are the values of the circuit in all states and with all inputs.
func values(t *testing.T, c api.Circuit) map[string]struct{} {
	t.Helper()
	met := map[string]struct{}{}
	for _, state := range texts(len(c.Latches)) {
		for _, input := range texts(len(c.Inputs)) {
			v, e := sim.Values(c, state, input)
			if e != api.OK {
				t.Fatalf("Values(%v) = %d", c, e)
			}
			met[v] = struct{}{}
		}
	}
	return met
}

// A model of the gates is values of the circuit, and all values are models; what lies ahead of the base may be any.
func TestModelsAreValues(t *testing.T) {
	r, models, gates := chance(12), 0, 0
	for range 1500 {
		c, base := r.drawn(9), r.below(6)
		clauses, e := tseitin.Gates(c, base)
		if e != api.OK {
			t.Fatalf("P12.1: Gates(%v, %d) = %d", c, base, e)
		}
		f := api.Formula{Vars: base + c.Max + 1, Clauses: clauses}
		if formula.Check(f) != api.OK {
			t.Fatalf("P12.2: Gates(%v, %d) = %d is no formula", c, base, clauses)
		}
		met := values(t, c)
		for _, m := range texts(c.Max + 1) {
			_, want := met[m]
			if got := formula.True(f, r.bits(base)+m); got != want {
				t.Fatalf("P12.2: Gates(%v, %d) = %d: of %q a model: %v", c, base, clauses, m, got)
			}
		}
		models += len(met)
		gates += len(c.Ands)
	}
	if models < 5000 || gates < 2000 {
		t.Errorf("P12.2: only %d models, %d ands", models, gates)
	}
}

// What forces a step is true just of the values with which it is allowed.
func TestForcedIsAllowed(t *testing.T) {
	r, met := chance(13), map[bool]int{}
	for range 2000 {
		c, base := r.drawn(8), r.below(6)
		assume := r.assumed(c)
		clauses, e := tseitin.Force(c, assume, base)
		f := api.Formula{Vars: base + c.Max + 1, Clauses: clauses}
		if e != api.OK || formula.Check(f) != api.OK || len(clauses) != len(c.Invars)+len(assume) {
			t.Fatalf("P12.1: Force(%v, %d, %d) = %d, %d", c, assume, base, clauses, e)
		}
		for v := range values(t, c) {
			want := replay.Allowed(c, assume, v)
			met[want]++
			if got := formula.True(f, r.bits(base)+v); got != want {
				t.Fatalf("P12.1: Force(%v, %d, %d) = %d: of %q true: %v", c, assume, base, clauses, v, got)
			}
		}
	}
	if met[true] < 1000 || met[false] < 1000 {
		t.Errorf("P12.1: of all steps, %v are allowed", met)
	}
}

// full is a circuit with as much of everything as there may be: 64 inputs, 64 latches, and ands up to MaxVar.
func full() api.Circuit {
	c := api.Circuit{Max: api.MaxVar}
	for n := range api.MaxPins {
		c.Inputs = append(c.Inputs, 4*n+2)
		c.Latches = append(c.Latches, api.Latch{Lit: 4*n + 4, Next: 2*api.MaxVar - n, Reset: n % 2})
		c.Invars = append(c.Invars, 2*api.MaxVar+1-n)
	}
	r := chance(14)
	for l := 4*api.MaxPins + 2; l <= 2*api.MaxVar; l += 2 {
		c.Ands = append(c.Ands, api.And{Lit: l, Left: 2 + r.below(l-2), Right: l - 1})
	}
	return c
}

// The values of the greatest circuit follow by units from those of its inputs and latches.
func TestTheGreatest(t *testing.T) {
	c, r := full(), chance(15)
	for _, base := range []int{0, 1000, api.MaxVars - api.MaxVar - 1} {
		clauses, e := tseitin.Gates(c, base)
		if e != api.OK || len(clauses) != 1+3*len(c.Ands) {
			t.Fatalf("P12.1: Gates of the greatest circuit, from %d: %d, %d", base, len(clauses), e)
		}
		f := api.Formula{Vars: base + c.Max + 1, Clauses: clauses}
		state, input := r.bits(len(c.Latches)), r.bits(len(c.Inputs))
		var given, want []int
		for at, l := range c.Inputs {
			given = append(given, tseitin.Lit(base, l^int('1'-input[at])))
		}
		for at, latch := range c.Latches {
			given = append(given, tseitin.Lit(base, latch.Lit^int('1'-state[at])))
		}
		v, _ := sim.Values(c, state, input)
		for at := range v {
			want = append(want, tseitin.Lit(base, 2*at+int('1'-v[at])))
		}
		if got, may, e := formula.Units(f, given...); !slices.Equal(got, want) || !may || e != api.OK {
			t.Errorf("P12.2: from %d, what follows of the greatest circuit's inputs and latches are not its values: %d, %v, %d", base, len(got), may, e)
		}
	}
	// One base after the other, as far as there are variables.
	for base := 0; base <= api.MaxVars; base += c.Max + 1 {
		clauses, e := tseitin.Gates(c, base)
		if last := len(clauses) - 1; e != api.OK || !slices.Equal(clauses[0], []int{-base - 1}) || clauses[last][0] != base+api.MaxVar+1 {
			t.Fatalf("P12.1: Gates of the greatest circuit, from %d: %d, %d", base, last, e)
		}
	}
}

// reach is where the memory of a list begins and ends, also that behind its end.
func reach[T any](l []T) [2]uintptr {
	var one T
	from := uintptr(unsafe.Pointer(unsafe.SliceData(l)))
	return [2]uintptr{from, from + uintptr(cap(l))*unsafe.Sizeof(one)}
}

// lists is where the memory of clauses is, of those lists that have some.
func lists(l [][]int) [][2]uintptr {
	all := [][2]uintptr{reach(l)}
	for _, one := range l {
		all = append(all, reach(one))
	}
	return slices.DeleteFunc(all, func(r [2]uintptr) bool { return r[0] == r[1] })
}

// apart tells whether no two of those have memory in common.
func apart(all [][2]uintptr) bool {
	slices.SortFunc(all, func(a, b [2]uintptr) int { return slices.Compare(a[:], b[:]) })
	for at := 1; at < len(all); at++ {
		if all[at][0] < all[at-1][1] {
			return false
		}
	}
	return true
}

// marked is a list with room behind it that is marked.
func marked(l ...int) []int {
	return append(slices.Clone(l), 77, 78, 79)[:len(l)]
}

// stays tells whether a list of marked is as it was, also behind its end.
func stays(list []int, l ...int) bool {
	return slices.Equal(list, l) && slices.Equal(list[:len(l)+3][len(l):], []int{77, 78, 79})
}

// spoil writes over clauses, up to the ends of their memory.
func spoil(l [][]int) {
	for at := range l {
		whole := l[at][:cap(l[at])]
		for i := range whole {
			whole[i] = 1000
		}
		l[at] = nil
	}
}

func TestMemoryOfClause(t *testing.T) {
	for _, l := range [][]int{nil, {5}, {2, 3, 2}, {-1, greatest}} {
		asked := marked(l...)
		one, other := tseitin.Clause(3, asked), tseitin.Clause(3, asked)
		if !stays(asked, l...) || !apart(lists([][]int{asked, one, other})) {
			t.Errorf("P12.3: Clause(3, %d) shares memory, or changes it: %d", l, asked)
		}
		want := slices.Clone(one)
		spoil([][]int{asked, other})
		if !slices.Equal(one, want) {
			t.Errorf("P12.3: Clause(3, %d) was changed to %d", l, one)
		}
	}
}

func TestMemoryOfGatesAndForce(t *testing.T) {
	c, kept := sample(), sample()
	c.Inputs, c.Invars = marked(c.Inputs...), marked(c.Invars...)
	shared := marked(4, 11)
	assume := [][]int{shared, shared, marked(), marked(5), {81}, {82}}[:4]
	gates, _ := tseitin.Gates(c, 10)
	again, _ := tseitin.Gates(c, 10)
	force, _ := tseitin.Force(c, assume, 10)
	forced, _ := tseitin.Force(c, assume, 10)
	if !reflect.DeepEqual(c, kept) || !stays(c.Inputs, kept.Inputs...) || !stays(c.Invars, kept.Invars...) {
		t.Errorf("P12.3: the circuit was changed to %v", c)
	}
	if behind := assume[:6]; !stays(shared, 4, 11) || !stays(assume[2]) || !stays(assume[3], 5) || !same(behind[4:], [][]int{{81}, {82}}) {
		t.Errorf("P12.3: what is assumed was changed to %d", behind)
	}
	told := slices.Concat(lists(gates), lists(again), lists(force), lists(forced))
	if !apart(slices.Concat(told, lists([][]int{shared, c.Inputs, c.Invars}), [][2]uintptr{reach(assume)})) {
		t.Error("P12.3: lists that are told share memory")
	}
	if !same(gates, again) || !same(force, forced) {
		t.Errorf("P12.3: asked again: %d, %d, %d, %d", gates, again, force, forced)
	}
	// What was handed in and one answer are changed: the others stay.
	spoil(again)
	spoil(forced)
	spoil(assume)
	spoil([][]int{c.Inputs, c.Invars})
	clear(c.Ands)
	wantGates, _ := tseitin.Gates(sample(), 10)
	wantForce, _ := tseitin.Force(sample(), [][]int{{4, 11}, {4, 11}, {}, {5}}, 10)
	if !same(gates, wantGates) || !same(force, wantForce) {
		t.Errorf("P12.3: what was told was changed to %d, %d", gates, force)
	}
}

// Nil lists and empty ones are one.
func TestEmptyLists(t *testing.T) {
	empty := api.Circuit{Max: 2, Inputs: []int{}, Latches: []api.Latch{}, Outputs: []int{}, Bads: []int{}, Invars: []int{}, Ands: []api.And{}, Names: []api.Name{}}
	gates, e := tseitin.Gates(empty, 4)
	force, e2 := tseitin.Force(empty, [][]int{}, 4)
	if !same(gates, [][]int{{-5}, {-6}, {-7}}) || len(force) != 0 || e != api.OK || e2 != api.OK {
		t.Errorf("P12.1: of empty lists: %d, %d, %d, %d", gates, e, force, e2)
	}
}

// P3: the answers hang on the arguments, however many ask at a time.
func TestAtOneTime(t *testing.T) {
	c := full()
	kept, assume := circuit.Copy(c), [][]int{{2, 5}, {}, {7}}
	wantGates, _ := tseitin.Gates(c, 7)
	wantForce, _ := tseitin.Force(c, assume, 7)
	var wait sync.WaitGroup
	for range 8 {
		wait.Go(func() {
			for range 20 {
				gates, e := tseitin.Gates(c, 7)
				force, e2 := tseitin.Force(c, assume, 7)
				if !same(gates, wantGates) || !same(force, wantForce) || e != api.OK || e2 != api.OK || tseitin.Lit(7, 5) != -10 {
					t.Error("P12.3: other answers at one time")
					return
				}
			}
		})
	}
	wait.Wait()
	if !reflect.DeepEqual(c, kept) || !same(assume, [][]int{{2, 5}, {}, {7}}) {
		t.Error("P12.3: what was handed in was changed")
	}
}
