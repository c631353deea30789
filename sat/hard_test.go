package sat_test

import (
	"slices"
	"testing"

	"interlock/api"
	"interlock/sat"
)

// pigeons are clauses that each of so many has a hole, and none has another one's.
func pigeons(n, holes int) [][]int {
	var list [][]int
	has := func(one, hole int) int { return one*holes + hole + 1 }
	for one := range n {
		var l []int
		for hole := range holes {
			l = append(l, has(one, hole))
			for other := range one {
				list = append(list, []int{-has(one, hole), -has(other, hole)})
			}
		}
		list = append(list, l)
	}
	return list
}

// TestPigeons: as many as there are holes have one each; more have not.
func TestPigeons(t *testing.T) {
	for holes := 1; holes <= 8; holes++ {
		for n := holes; n <= min(holes+1, 8); n++ {
			list := pigeons(n, holes)
			s := of(t, n*holes, list...)
			got := s.Solve(enough)
			if want := n - holes + 1; got != want || got == 1 && !fits(values(s), list, nil) || len(s.Core()) != 0 {
				t.Errorf("P16.3: %d in %d holes: %d, want %d", n, holes, got, want)
			}
			// It is known then.
			used := s.Used()
			if again := s.Solve(1); got == 2 && (again != 2 || s.Used() != used+1) {
				t.Errorf("P16.3: %d in %d holes: again %d", n, holes, again)
			}
		}
	}
}

// TestPigeonsAmongMany: what is learned, and is too much, goes, but no clause that was added, however many there are.
func TestPigeonsAmongMany(t *testing.T) {
	list := pigeons(8, 7)
	first := 8*7 + 1
	for v := first; v < first+5000; v++ {
		list = append(list, []int{-v, v + 1})
	}
	s := of(t, first+5000, list...)
	if s.Solve(enough, first) != 2 || len(s.Core()) != 0 {
		t.Errorf("P16.3: 8 in 7 holes, among many clauses: Core %v, true are %d", s.Core(), len(values(s)))
	}
	// The first clause was that the first one has a hole: without it there are models, which must be of all clauses.
	list = pigeons(8, 7)[1:]
	for v := first; v < first+5000; v++ {
		list = append(list, []int{-v, v + 1})
	}
	s = of(t, first+5000, list...)
	for one := range 8 {
		if s.Solve(enough, first+one) != 1 || !fits(values(s), list, []int{first + one}) {
			t.Fatalf("P16.3: 7 in 7 holes, among many clauses: there is no model, or it is none")
		}
	}
}

// TestPigeonsAssumed: what must have a hole is assumed one by one, by a variable for each, so that the core tells how many are too many.
func TestPigeonsAssumed(t *testing.T) {
	const n, holes = 9, 5
	s := sat.New(n * holes)
	first, _ := s.Grow(n)
	first++
	for _, l := range pigeons(n, holes) {
		if len(l) == holes {
			l = append(l, -first-(l[0]-1)/holes)
		}
		if s.Add(l...) != api.OK {
			t.Fatal("P16.1: Add")
		}
	}
	for _, x := range []struct {
		assume []int
		want   int
	}{
		{nil, 1}, {[]int{8, 1, 3}, 1}, {[]int{0, 2, 4, 6, 8}, 1}, {[]int{8, 6, 4, 2, 0, 1}, 2}, {[]int{1, 2, 3, 4, 5}, 1}, {[]int{0, 1, 2, 3, 4, 5, 6, 7, 8}, 2}, {[]int{8, 7, 6, 5, 4, 3, 2}, 2}, {[]int{0, 1}, 1},
	} {
		var assume []int
		for _, one := range x.assume {
			assume = append(assume, first+one)
		}
		got := s.Solve(enough, assume...)
		if got != x.want || got == 2 && (!among(s.Core(), assume) || len(s.Core()) < holes+1) {
			t.Errorf("P16.3: of %v: %d, Core %v, want %d", x.assume, got, s.Core(), x.want)
		}
	}
}

// odd are clauses that an odd number of those variables is true, or an even one.
func odd(want int, l ...int) [][]int {
	var list [][]int
	for signs := range 1 << len(l) {
		one, sum := slices.Clone(l), 0
		for at := range l {
			if signs>>at&1 == 1 {
				one[at], sum = -l[at], sum^1
			}
		}
		if sum != want {
			list = append(list, one)
		}
	}
	return list
}

// TestParity: each variable stands in two sums, so that they all together are even; if one is wanted odd they can't be.
func TestParity(t *testing.T) {
	for seed := range 6 {
		for _, want := range []int{1, 2} {
			r := chance(seed)
			const sums = 20
			var of [sums][]int
			for v := 1; v <= 3*sums/2; v++ {
				for range 2 {
					at := r.below(sums)
					for len(of[at]) == 3 {
						at = (at + 1) % sums
					}
					of[at] = append(of[at], v)
				}
			}
			var list [][]int
			for at, l := range of {
				wanted := 0
				if at < want {
					wanted = 1
				}
				list = append(list, odd(wanted, l...)...)
			}
			parity(t, seed, 3*sums/2, list, want == 1)
		}
	}
}

// parity solves sums; those that can be might still not be, as sums may fall apart.
func parity(t *testing.T, seed, vars int, list [][]int, cant bool) {
	t.Helper()
	s := of(t, vars, list...)
	got := s.Solve(enough)
	if cant && got != 2 || got == 0 || got == 1 && !fits(values(s), list, nil) {
		t.Errorf("P16.3: seed %d: sums that can't be (%v): %d", seed, cant, got)
	}
}

// TestDrawnLarge: of clauses of three literals: those drawn about a model have one; of all others models are models, and what is told with cores is told again of these alone.
func TestDrawnLarge(t *testing.T) {
	for seed := range 24 {
		r := chance(seed)
		const vars = 150
		hidden := r.literals(vars, 2)
		var list [][]int
		for len(list) < 620 {
			l := r.literals(3, vars)
			so := func(n int) bool { return (hidden[max(n, -n)-1] > 0) == (n > 0) }
			if seed%2 == 0 || slices.ContainsFunc(l, so) {
				list = append(list, l)
			}
		}
		s, p := of(t, vars, list...), &plain{vars: vars, list: list}
		for n := range 8 {
			assume := r.literals(2*n, vars)
			used := s.Used()
			told := s.Solve(enough, assume...)
			core := s.Core()
			if wrong := p.fault(s, told, used, enough, assume...); wrong != "" || told == 0 || n == 0 && seed%2 == 1 && told != 1 {
				t.Fatalf("P16.3: seed %d: Solve(%v) = %d: %s", seed, assume, told, wrong)
			}
			if told == 2 && of(t, vars, list...).Solve(enough, core...) != 2 {
				t.Fatalf("P16.3: seed %d: Solve(%v): the core %v has a model", seed, assume, core)
			}
		}
	}
}

// TestWhatIsLearnedStays: a long row of Solves and clauses more, by which clauses are learned, dropped and made shorter; a solver that is new tells the same.
func TestWhatIsLearnedStays(t *testing.T) {
	const vars = 90
	for seed := range 3 {
		r := chance(seed)
		s, p := sat.New(vars), &plain{vars: vars}
		var kinds [3]int
		for n := range 150 {
			if n < 60 || n%4 == 0 {
				for range 6 {
					l := r.literals(3, vars)
					s.Add(l...)
					p.list = append(p.list, l)
				}
			}
			if n > 60 && n%10 == 0 {
				l := r.literals(1, vars)
				s.Add(l[0], l[0])
				p.list = append(p.list, l)
			}
			assume, used := r.literals(r.below(9), vars), s.Used()
			told := s.Solve(enough, assume...)
			kinds[told]++
			if wrong := p.fault(s, told, used, enough, assume...); wrong != "" || told != of(t, vars, p.list...).Solve(enough, assume...) {
				t.Fatalf("P16.3: seed %d, %d clauses: Solve(%v) = %d %s", seed, len(p.list), assume, told, wrong)
			}
		}
		if kinds[0] != 0 || kinds[1] < 20 || kinds[2] < 20 {
			t.Errorf("P16.3: kinds that were told: %v", kinds)
		}
	}
}

// TestTakenAway: clauses that count as long as a variable of their own is assumed, and then no more, as those of groups do.
func TestTakenAway(t *testing.T) {
	const vars = 40
	s := sat.New(vars)
	r := chance(3)
	p := &plain{vars: vars}
	for range 120 {
		l := r.literals(3, vars)
		s.Add(l...)
		p.list = append(p.list, l)
	}
	for n := range 1500 {
		own, e := s.Grow(1)
		own++
		if e != api.OK || own != vars+n+1 {
			t.Fatalf("P16.1: Grow(1) = %d, %d", own-1, e)
		}
		l := r.literals(2, vars)
		s.Add(append([]int{-own}, l...)...)
		assume := append(r.literals(r.below(5), vars), own)
		got := s.Solve(enough, assume...)
		if got == 1 && !fits(values(s), append(p.list, l), assume) || got == 2 && !among(s.Core(), assume) {
			t.Fatalf("P16.3: %d: Solve(%v) = %d, Core %v", n, assume, got, s.Core())
		}
		if n%50 == 0 {
			fresh := of(t, vars, append(p.list[:len(p.list):len(p.list)], l)...)
			if want := fresh.Solve(enough, assume[:len(assume)-1]...); got != want {
				t.Fatalf("P16.3: %d: Solve(%v) = %d, want %d", n, assume, got, want)
			}
		}
		s.Add(-own)
	}
}

// TestTheGreatest: all variables that may be, each of which follows from the one ahead of it.
func TestTheGreatest(t *testing.T) {
	s := sat.New(most)
	for v := 1; v < most; v++ {
		s.Add(v+1, -v)
	}
	if s.Solve(1, 1) != 1 || len(values(s)) != most {
		t.Errorf("P16.3: of a chain: true are %d", len(values(s)))
	}
	if s.Solve(1, -most) != 1 || len(values(s)) != 0 {
		t.Errorf("P16.3: of a chain, back: true are %d", len(values(s)))
	}
	if s.Solve(1, most/2, 1, -most) != 2 || !slices.Equal(s.Core(), []int{most / 2, -most}) {
		t.Errorf("P16.3: of a chain: Core %v", s.Core())
	}
	if s.Solve(1, upTo(most)...) != 1 || len(values(s)) != most {
		t.Errorf("P16.3: all are assumed: true are %d", len(values(s)))
	}
	// A conflict whose reasons are the whole chain.
	s.Add(-1, -most)
	s.Add(1, 2)
	if s.Solve(enough) != 1 || s.Value(1) || len(values(s)) != most-1 {
		t.Errorf("P16.3: of a chain that can't begin: true are %d", len(values(s)))
	}
	if s.Add(-most) != api.OK || s.Solve(enough, 7) != 2 || len(s.Core()) != 0 {
		t.Errorf("P16.3: of a chain that can't end: Core %v", s.Core())
	}
}

// TestLongClauses: as long as may be, and as many.
func TestLongClauses(t *testing.T) {
	const vars = 2 * api.MaxClause
	s := sat.New(vars)
	r := chance(5)
	var list [][]int
	for range 800 {
		l := r.literals(api.MaxClause, vars)
		list = append(list, l)
		if s.Add(l...) != api.OK {
			t.Fatal("P16.1: a clause of MaxClause literals may not be")
		}
	}
	if s.Solve(enough) != 1 || !fits(values(s), list, nil) {
		t.Error("P16.3: long clauses have no model")
	}
	// Of the longest one all but one are false.
	s = of(t, vars, upTo(api.MaxClause))
	var assume []int
	for v := api.MaxClause; v > 1; v-- {
		assume = append(assume, -v)
	}
	if s.Solve(1, assume...) != 1 || !s.Value(1) || s.Solve(1, append(assume, -1)...) != 2 || len(s.Core()) != api.MaxClause {
		t.Errorf("P16.3: of a long clause: Core of %d", len(s.Core()))
	}
}

// TestManyClauses: as many as a formula may have.
func TestManyClauses(t *testing.T) {
	const vars = 1 << 12
	s := sat.New(vars)
	r := chance(9)
	for range api.MaxClauses {
		a, b := 1+r.below(vars), 1+r.below(vars)
		s.Add(max(a, b), -min(a, b))
	}
	if s.Solve(enough, 1) != 1 || !s.Value(1) || !s.Value(vars) || s.Solve(enough, vars, -vars, 5) != 2 || !slices.Equal(s.Core(), []int{vars, -vars}) {
		t.Errorf("P16.3: of many clauses: Core %v", s.Core())
	}
}
