package unroll_test

import (
	"reflect"
	"slices"
	"strings"
	"sync"
	"testing"
	"unsafe"

	"interlock/api"
	"interlock/circuit"
	"interlock/formula"
	"interlock/replay"
	"interlock/sim"
	"interlock/unroll"
)

// chance makes numbers, one after the other, always the same ones.
type chance uint64

func (r *chance) below(n int) int {
	*r = *r*6364136223846793005 + 1442695040888963407
	return int(uint64(*r)>>33) % n
}

func (r *chance) bits(n int) string {
	var s strings.Builder
	for range n {
		s.WriteByte("01"[r.below(2)])
	}
	return s.String()
}

// drawn is a circuit of up to so many variables, some of which are inputs, latches and ands.
func (r *chance) drawn(most int) api.Circuit {
	c := api.Circuit{Max: r.below(most + 1)}
	named := []int{0}
	pick := func() int { return 2*named[r.below(len(named))] + r.below(2) }
	for v := 1; v <= c.Max; v++ {
		switch r.below(6) {
		case 0:
			c.Inputs = append(c.Inputs, 2*v)
		case 1, 2:
			c.Latches = append(c.Latches, api.Latch{Lit: 2 * v, Reset: []int{0, 1, 2 * v}[r.below(3)]})
		case 3, 4:
			c.Ands = append(c.Ands, api.And{Lit: 2 * v, Left: pick(), Right: pick()})
		default:
			continue
		}
		named = append(named, v)
	}
	slices.Reverse(c.Latches)
	for i := range c.Latches {
		c.Latches[i].Next = pick()
	}
	for range r.below(4) / 3 {
		c.Invars = append(c.Invars, pick())
	}
	c.Bads = append(c.Bads, pick())
	return c
}

// asked is a question of that circuit, with clauses of all kinds, now and then an empty one.
func (r *chance) asked(c api.Circuit) api.Question {
	clauses := func(drawn func() int) [][]int {
		var all [][]int
		for range r.below(5) / 3 {
			var l []int
			for range r.below(15) / 3 {
				l = append(l, drawn())
			}
			all = append(all, l)
		}
		return all
	}
	lit := func() int { return r.below(2*c.Max + 2) }
	q := api.Question{Circuit: c, Assume: clauses(lit), Lemmas: clauses(lit)}
	if n := len(c.Latches); n > 0 {
		q.Known = clauses(func() int { return (1 + r.below(n)) * (1 - 2*r.below(2)) })
	}
	return q
}

// texts lists all texts of so many bits.
func texts(n int) []string {
	list := []string{""}
	for range n {
		var longer []string
		for _, s := range list {
			longer = append(longer, s+"0", s+"1")
		}
		list = longer
	}
	return list
}

// part is a formula of the variables of so many frames.
func part(c api.Circuit, frames int, clauses ...[][]int) api.Formula {
	return api.Formula{Vars: frames * (c.Max + 1), Clauses: slices.Concat(clauses...)}
}

// holds tells whether clauses over latches are true of a state, latch by latch.
func holds(known [][]int, state string) bool {
	return !slices.ContainsFunc(known, func(l []int) bool {
		return !slices.ContainsFunc(l, func(n int) bool { return state[max(n, -n)-1] == '1' == (n > 0) })
	})
}

// steps are the values of all steps that are allowed, and that have what is proved; behind them their states and those behind them.
func steps(t *testing.T, q api.Question) map[string][2]string {
	t.Helper()
	met, c := map[string][2]string{}, q.Circuit
	for _, state := range texts(len(c.Latches)) {
		for _, input := range texts(len(c.Inputs)) {
			v, e := sim.Values(c, state, input)
			path, e2 := replay.States(c, state, input)
			if e != api.OK || e2 != api.OK {
				t.Fatalf("Values(%v) = %d, %d", c, e, e2)
			}
			lemmas := !slices.ContainsFunc(q.Lemmas, func(l []int) bool { return !sim.Holds(v, l) })
			if replay.Allowed(c, q.Assume, v) && lemmas && holds(q.Known, state) {
				met[v] = [2]string{state, path[1]}
			}
		}
	}
	return met
}

// A model of a frame is the values of a step that has all that is asked of it.
func TestModelsOfFrames(t *testing.T) {
	r, models, empty := chance(13), 0, 0
	for range 1500 {
		c, frame := r.drawn(8), r.below(3)
		q := r.asked(c)
		f := part(c, frame+1, unroll.Frame(q, frame))
		if formula.Check(f) != api.OK {
			t.Fatalf("P13.1: Frame(%v, %d) = %d is no formula", q, frame, f.Clauses)
		}
		met := steps(t, q)
		for _, m := range texts(c.Max + 1) {
			_, want := met[m]
			if got := formula.True(f, r.bits(frame*(c.Max+1))+m); got != want {
				t.Fatalf("P13.1: Frame(%v, %d) = %d: of %q a model: %v", q, frame, f.Clauses, m, got)
			}
		}
		models += len(met)
		if len(met) == 0 {
			empty++
		}
	}
	if models < 4000 || empty < 100 {
		t.Errorf("P13.1: only %d models, %d of none", models, empty)
	}
}

// A model of frames with links between them is a path of steps; with First it begins in a first state.
func TestModelsArePaths(t *testing.T) {
	r, paths, firsts := chance(14), 0, 0
	for range 1500 {
		c := r.drawn(3)
		q := r.asked(c)
		met, size := steps(t, q), c.Max+1
		linked := part(c, 3, unroll.Frame(q, 0), unroll.Link(c, 0), unroll.Frame(q, 1), unroll.Link(c, 1), unroll.Frame(q, 2))
		first := part(c, 3, unroll.First(c))
		if formula.Check(linked) != api.OK || formula.Check(first) != api.OK {
			t.Fatalf("P13.1: of %v: %d is no formula", q, linked.Clauses)
		}
		for _, m := range texts(3 * size) {
			a, isA := met[m[:size]]
			b, isB := met[m[size:2*size]]
			d, isD := met[m[2*size:]]
			want := isA && isB && isD && a[1] == b[0] && b[1] == d[0]
			if got := formula.True(linked, m); got != want {
				t.Fatalf("P13.1: frames of %v: of %q a model: %v", q, m, got)
			}
			if !want {
				continue
			}
			paths++
			if got := formula.True(first, m); got != sim.Initial(c, a[0]) {
				t.Fatalf("P13.1: First of %v: of %q true: %v", q, m, got)
			} else if got {
				firsts++
			}
		}
	}
	if paths < 2000 || firsts < 500 || firsts > paths-400 {
		t.Errorf("P13.1: only %d paths, %d from first states", paths, firsts)
	}
}

// Apart is true just if each variable behind aux that is true has a latch that differs, and there is one.
func TestModelsOfApart(t *testing.T) {
	r, met := chance(15), map[bool]int{}
	for range 6000 {
		c, a, b := r.drawn(6), r.below(3), r.below(3)
		size, n := c.Max+1, len(c.Latches)
		aux := 3*size + r.below(4)
		f := api.Formula{Vars: aux + n, Clauses: unroll.Apart(c, a, b, aux)}
		if formula.Check(f) != api.OK {
			t.Fatalf("P13.2: Apart(%v, %d, %d, %d) = %d is no formula", c, a, b, aux, f.Clauses)
		}
		m := r.bits(aux)
		differs := make([]bool, n)
		for at, latch := range c.Latches {
			v := latch.Lit / 2
			differs[at] = m[a*size+v] != m[b*size+v]
		}
		for _, tail := range texts(n) {
			want := strings.Contains(tail, "1")
			for at, yes := range differs {
				want = want && (yes || tail[at] == '0')
			}
			if got := formula.True(f, m+tail); got != want {
				t.Fatalf("P13.2: Apart(%v, %d, %d, %d) = %d: of %q a model: %v", c, a, b, aux, f.Clauses, m+tail, got)
			}
			met[want]++
		}
	}
	if met[true] < 2000 || met[false] < 2000 {
		t.Errorf("P13.2: models: %v", met)
	}
}

// full is a circuit with as much of everything as there may be: 64 inputs, 64 latches, and ands up to MaxVar.
func full() api.Circuit {
	c := api.Circuit{Max: api.MaxVar, Bads: []int{2 * api.MaxVar}}
	for n := range api.MaxPins {
		c.Inputs = append(c.Inputs, 4*n+2)
		c.Latches = append(c.Latches, api.Latch{Lit: 4*n + 4, Next: 2*api.MaxVar - n, Reset: n % 2})
		c.Invars = append(c.Invars, 2*api.MaxVar+1-n)
	}
	r := chance(16)
	for l := 4*api.MaxPins + 2; l <= 2*api.MaxVar; l += 2 {
		c.Ands = append(c.Ands, api.And{Lit: l, Left: 2 + r.below(l-2), Right: l - 1})
	}
	return c
}

// The states of the greatest circuit follow by units, frame by frame, from the first one and the inputs.
func TestTheGreatestPath(t *testing.T) {
	c, r := full(), chance(17)
	c.Invars = nil
	size, last := c.Max+1, api.MaxFrames-1
	clauses := unroll.First(c)
	var inputs []string
	var given []int
	for frame := range last + 1 {
		clauses = append(clauses, unroll.Frame(api.Question{Circuit: c}, frame)...)
		if frame < last {
			clauses = append(clauses, unroll.Link(c, frame)...)
		}
		inputs = append(inputs, r.bits(len(c.Inputs)))
		for at, l := range c.Inputs {
			v := frame*size + l/2 + 1
			given = append(given, v*(2*int(inputs[frame][at]-'0')-1))
		}
	}
	state, _ := sim.First(c, r.bits(len(c.Latches)))
	states, e := replay.States(c, state, inputs...)
	set, may, e2 := formula.Units(api.Formula{Vars: unroll.Vars(c, api.MaxFrames), Clauses: clauses}, given...)
	if e != api.OK || e2 != api.OK || !may || len(set) != unroll.Vars(c, api.MaxFrames) {
		t.Fatalf("P13.1: of the greatest circuit follow %d, %v, %d, %d", len(set), may, e, e2)
	}
	for frame := range last + 1 {
		for at := range c.Latches {
			l := unroll.Latch(c, frame, at+1)
			if (set[l-1] == l) != (states[frame][at] == '1') {
				t.Fatalf("P13.1: latch %d in frame %d is not as in the path", at+1, frame)
			}
		}
	}
}

// reach is where the memory of a list begins and ends, also that behind its end.
func reach[T any](l []T) [2]uintptr {
	var one T
	from := uintptr(unsafe.Pointer(unsafe.SliceData(l)))
	return [2]uintptr{from, from + uintptr(cap(l))*unsafe.Sizeof(one)}
}

// lists is where the memory of clauses is, of those lists that have some.
func lists(l [][]int) [][2]uintptr {
	all := [][2]uintptr{reach(l)}
	for _, one := range l {
		all = append(all, reach(one))
	}
	return slices.DeleteFunc(all, func(r [2]uintptr) bool { return r[0] == r[1] })
}

// apart tells whether no two of those have memory in common.
func apart(all [][2]uintptr) bool {
	slices.SortFunc(all, func(a, b [2]uintptr) int { return slices.Compare(a[:], b[:]) })
	for at := 1; at < len(all); at++ {
		if all[at][0] < all[at-1][1] {
			return false
		}
	}
	return true
}

// marked is a list with room behind it that is marked.
func marked(l ...int) []int {
	return append(slices.Clone(l), 77, 78, 79)[:len(l)]
}

// stays tells whether a list of marked is as it was, also behind its end.
func stays(list []int, l ...int) bool {
	return slices.Equal(list, l) && slices.Equal(list[:len(l)+3][len(l):], []int{77, 78, 79})
}

// spoil writes over clauses, up to the ends of their memory.
func spoil(l [][]int) {
	for at := range l {
		whole := l[at][:cap(l[at])]
		for i := range whole {
			whole[i] = 1000
		}
		l[at] = nil
	}
}

// answers is all that is told of a question in clauses.
func answers(q api.Question) [][][]int {
	return [][][]int{unroll.First(q.Circuit), unroll.Frame(q, 1), unroll.Link(q.Circuit, 1), unroll.Apart(q.Circuit, 0, 2, 99)}
}

func TestMemory(t *testing.T) {
	q, want := question(), answers(question())
	shared, known := marked(4, 15), marked(2, -3)
	q.Circuit.Invars = marked(q.Circuit.Invars...)
	q.Assume = [][]int{shared, shared, {81}}[:2]
	q.Lemmas = [][]int{shared, marked(5), {82}}[:2]
	q.Known = [][]int{known, known, {83}}[:2]
	as := func(l [][]int) [][]int { return [][]int{slices.Clone(l[0]), slices.Clone(l[1])} }
	kept := api.Question{Circuit: circuit.Copy(q.Circuit), Assume: as(q.Assume), Lemmas: as(q.Lemmas), Known: as(q.Known), Bad: 2, Depth: 4, Budget: 100}
	if e := unroll.Check(q); e != api.OK {
		t.Fatalf("P13.1: Check(%v) = %d", q, e)
	}
	one, other := answers(q), answers(q)
	if !reflect.DeepEqual(q, kept) || !stays(shared, 4, 15) || !stays(known, 2, -3) || !stays(q.Lemmas[1], 5) || !stays(q.Circuit.Invars, kept.Circuit.Invars...) {
		t.Errorf("P13.3: the question was changed to %v", q)
	}
	if !same(slices.Concat(q.Assume[2:3], q.Lemmas[2:3], q.Known[2:3]), [][]int{{81}, {82}, {83}}) {
		t.Errorf("P13.3: behind the question's clauses: %v", q)
	}
	told := lists([][]int{shared, known, q.Lemmas[1], q.Circuit.Invars, q.Circuit.Bads, q.Circuit.Inputs})
	told = append(told, reach(q.Assume), reach(q.Lemmas), reach(q.Known), reach(q.Circuit.Latches))
	for at := range one {
		told = append(told, slices.Concat(lists(one[at]), lists(other[at]))...)
	}
	if !apart(told) {
		t.Error("P13.3: lists that are told share memory")
	}
	// What was handed in and one answer are changed: the others stay.
	for _, l := range other {
		spoil(l)
	}
	for _, l := range [][][]int{q.Assume, q.Lemmas, q.Known, {q.Circuit.Invars, q.Circuit.Inputs}} {
		spoil(l)
	}
	clear(q.Circuit.Ands)
	clear(q.Circuit.Latches)
	if again := answers(kept); !slices.EqualFunc(one, again, same) {
		t.Errorf("P13.3: what was told was changed to %d", one)
	}
	if again := answers(question()); !slices.EqualFunc(want, again, same) {
		t.Errorf("P13.3: asked again: %d", again)
	}
}

// Nil lists and empty ones are one.
func TestEmptyLists(t *testing.T) {
	empty := api.Circuit{Max: 1, Inputs: []int{}, Latches: []api.Latch{}, Outputs: []int{}, Bads: []int{1}, Invars: []int{}, Ands: []api.And{}, Names: []api.Name{}}
	one := api.Question{Circuit: empty, Assume: [][]int{}, Lemmas: [][]int{}, Known: [][]int{}}
	other := api.Question{Circuit: api.Circuit{Max: 1, Bads: []int{1}}}
	if a, b := answers(one), answers(other); !slices.EqualFunc(a, b, same) || unroll.Check(one) != api.OK || unroll.Check(other) != api.OK {
		t.Errorf("P13.1: of empty lists: %d, %d", a, b)
	}
}

// P3: the answers hang on the arguments, however many ask at a time.
func TestAtOneTime(t *testing.T) {
	q := question()
	q.Circuit = full()
	q.Bad = 0
	kept := circuit.Copy(q.Circuit)
	want := answers(q)
	var wait sync.WaitGroup
	for range 8 {
		wait.Go(func() {
			for range 20 {
				if got := answers(q); !slices.EqualFunc(got, want, same) || unroll.Check(q) != api.OK || unroll.Latch(q.Circuit, 1, -2) != -api.MaxVar-6 {
					t.Error("P13.3: other answers at one time")
					return
				}
			}
		})
	}
	wait.Wait()
	if !reflect.DeepEqual(q.Circuit, kept) || !reflect.DeepEqual(q.Assume, question().Assume) || !reflect.DeepEqual(q.Known, question().Known) {
		t.Error("P13.3: what was handed in was changed")
	}
}
