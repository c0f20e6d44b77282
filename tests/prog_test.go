package tests

import (
	"math"
	"slices"
	"testing"

	"loop.example/catechist/impl"
)

func TestGoalsOk(t *testing.T) {
	r, all := steady(), okGoals()
	for range 3000 {
		all = append(all, madeGoal(r))
	}
	for _, g := range all {
		if !impl.GoalOk(g) {
			t.Errorf("not ok: %v", g)
		}
	}
	for _, g := range wrongGoals() {
		if impl.GoalOk(g) {
			t.Errorf("ok: %v", g)
		}
	}
}

// TestEachGoalOfAFewTerms holds each kind with each choice of a few terms, and none, against the plain reading.
func TestEachGoalOfAFewTerms(t *testing.T) {
	terms := [][]cell{nil, {}, read("a"), read("f(X7)"), read("X0"), read("X8"), read("-3"), chain(impl.PrgCells), chain(impl.PrgCells + 1), places(cell{})}
	ok := 0
	for kind := -1; kind <= 8; kind++ {
		for _, a := range terms {
			for _, b := range terms {
				for _, c := range terms {
					g := goal{Kind: kind, A: a, B: b, C: c}
					want := plainGoalOk(g)
					if got := impl.GoalOk(g); got != want {
						t.Errorf("%v: %t, want %t", g, got, want)
					}
					if want {
						ok++
					}
				}
			}
		}
	}
	// Of the terms three may be called, five may stand, and two are none: 3*4 + 2*(25*2) + 125 + 8.
	if ok != 245 {
		t.Errorf("%d are ok", ok)
	}
}

// TestGoalHasJustItsTerms: promise 68.
func TestGoalHasJustItsTerms(t *testing.T) {
	r, all := steady(), okGoals()
	for range 1000 {
		all = append(all, madeGoal(r))
	}
	tried := 0
	for _, g := range all {
		for k := range 3 {
			if termsOf(g.Kind)>>k&1 == 1 {
				continue
			}
			for _, more := range [][]cell{read("a"), read("X0"), read("7"), chain(impl.PrgCells), chain(impl.TrmMost), places(cell{}), chain(50)} {
				with := g
				*[]*[]cell{&with.A, &with.B, &with.C}[k] = more
				tried++
				if impl.GoalOk(with) || impl.GoalText(with) != "" {
					t.Errorf("with a term more: %v", with)
				}
				if p := (prog{Clauses: []clause{{Head: read("a"), Body: []goal{with}}}}); impl.PrgOk(p) || len(impl.PrgPrint(p)) != 0 {
					t.Errorf("a clause may have %v", with)
				}
			}
		}
		for k := range 3 {
			if termsOf(g.Kind)>>k&1 == 0 {
				continue
			}
			without := g
			*[]*[]cell{&without.A, &without.B, &without.C}[k] = nil
			if impl.GoalOk(without) || impl.GoalText(without) != "" {
				t.Errorf("without a term: %v", without)
			}
		}
	}
	if tried < 5000 {
		t.Errorf("only %d are tried", tried)
	}
}

func TestProgramsOk(t *testing.T) {
	for _, p := range somePrograms() {
		if !impl.PrgOk(p) {
			t.Errorf("not ok: %v", p)
		}
	}
	for _, p := range wrongProgs() {
		if impl.PrgOk(p) {
			t.Errorf("ok: %.300v", p)
		}
	}
}

// TestWrongProgramHasOneAnswer: of a program that is not ok there is nothing, no line, and no node.
func TestWrongProgramHasOneAnswer(t *testing.T) {
	for _, p := range wrongProgs() {
		if alone := impl.PrgAlone(p); !isNothing(alone) {
			t.Errorf("alone it is %v", alone)
		}
		if lines := impl.PrgPrint(p); len(lines) != 0 {
			t.Errorf("its lines are %q", lines)
		}
		for _, x := range [][]cell{read("a"), read("e(a,b)"), read("f(a,X0)"), read("X0"), nil} {
			if node := impl.PrgNode(p, x); node != -1 {
				t.Errorf("%v is called at %d", x, node)
			}
		}
	}
}

// TestTermsOfAClauseAtTheEdges: how many places, which variables, how many goals and clauses there may be.
func TestTermsOfAClauseAtTheEdges(t *testing.T) {
	for n := 1; n <= impl.TrmMost+1; n++ {
		want := n <= 12
		for _, p := range []prog{
			{Clauses: []clause{{Head: chain(n)}}},
			{Clauses: []clause{clauseWith("a", goal{Kind: impl.GoalCall, A: chain(n)})}},
			{Clauses: []clause{clauseWith("a", goal{Kind: impl.GoalSame, A: read("X0"), B: chain(n)})}},
			{Clauses: []clause{clauseWith("a", goal{Kind: impl.GoalPlus, A: read("X0"), B: read("1"), C: chain(n)})}},
			{Clauses: someFacts(n)},
		} {
			if got := impl.PrgOk(p); got != want {
				t.Errorf("with %d: %t", n, got)
			}
		}
		if got := impl.PrgOk(prog{Clauses: []clause{{Head: read("a"), Body: slices.Repeat([]goal{cutHere()}, n)}}}); got != (n <= 4) {
			t.Errorf("with %d goals: %t", n, got)
		}
	}
	for v, want := range map[int]bool{math.MinInt: false, -1: false, 0: true, 1: true, 6: true, 7: true, 8: false, 9: false, impl.TrmVars: false, math.MaxInt: false} {
		x := places(name("f", 2), number(1), variable(v))
		for _, p := range []prog{
			{Clauses: []clause{{Head: x}}},
			{Clauses: []clause{clauseWith("a", goal{Kind: impl.GoalCall, A: x})}},
			{Clauses: []clause{clauseWith("a", goal{Kind: impl.GoalLess, A: places(variable(v)), B: read("X0")})}},
		} {
			if got := impl.PrgOk(p); got != want {
				t.Errorf("with variable %d: %t", v, got)
			}
		}
	}
}

// TestPlacesAtTheEdges: which nodes, how many arguments, and how many names there may be.
func TestPlacesAtTheEdges(t *testing.T) {
	for node, want := range map[int]bool{math.MinInt: false, -1: false, 0: false, 1: true, 2: true, 3: false, 4: false, math.MaxInt: false} {
		if got := impl.PrgOk(prog{Places: []told{placed("e", 2, node)}}); got != want {
			t.Errorf("node %d: %t", node, got)
		}
	}
	for n, want := range map[int]bool{math.MinInt: false, -1: false, 0: true, 1: true, 2: true, 3: true, 4: false, math.MaxInt: false} {
		if got := impl.PrgOk(prog{Places: []told{placed("e", n, 1)}}); got != want {
			t.Errorf("%d arguments: %t", n, got)
		}
	}
	for n := range 12 {
		if got := impl.PrgOk(prog{Places: madePlaces(steady(), n)}); got != (n <= 6) {
			t.Errorf("%d names: %t", n, got)
		}
	}
}

// TestCallIsDoneAtOneNode: promise 24.
func TestCallIsDoneAtOneNode(t *testing.T) {
	r, nodes := steady(), map[int]int{}
	for _, p := range append(somePrograms(), wrongProgs()[:50]...) {
		var asked [][]cell
		for _, at := range p.Places {
			if at.N >= 0 && at.N <= impl.TrmArity {
				x := places(name(at.Name, at.N))
				for range at.N {
					x = append(x, clauseTerm(r, 1+r.IntN((impl.TrmMost-1)/3), impl.TrmVars+1)...)
				}
				asked = append(asked, x)
			}
		}
		for range 5 {
			asked = append(asked, clauseCall(r, 1+r.IntN(impl.TrmMost), impl.TrmVars+1), fewTerm(r, 3, fewVars()))
		}
		for _, x := range asked {
			want := plainNode(p, x)
			nodes[want]++
			if got := impl.PrgNode(p, x); got != want {
				t.Errorf("%v in %v: %d, want %d", x, p.Places, got, want)
			}
		}
	}
	for node := -1; node < impl.PrgNodes; node++ {
		if nodes[node] < 200 {
			t.Errorf("only %d are at node %d", nodes[node], node)
		}
	}
}

func TestNodeByHand(t *testing.T) {
	p := prog{
		Clauses: []clause{clauseWith("g(X0)", callOf("e(X0,X1)"))},
		Places:  []told{placed("e", 2, 1), placed("e", 0, 2), placed("abcdefgh", 3, 2)},
	}
	for s, want := range map[string]int{
		"e(a,b)": 1, "e(X0,X1)": 1, "e(X99999,X99999)": 1, "e(e,e(e))": 1, "e(1,f(g(h(a,b,c))))": 1,
		"e": 2, "abcdefgh(a,b,c)": 2, "abcdefgh(X9,-1,e)": 2,
		"e(a)": 0, "e(a,b,c)": 0, "f(a,b)": 0, "f(e,e)": 0, "abcdefg(a,b,c)": 0, "abcdefgh": 0, "g(X0)": 0, "z": 0,
		"X0": -1, "X99999": -1, "0": -1, "-1": -1, "1": -1, "2": -1,
	} {
		if got := impl.PrgNode(p, read(s)); got != want {
			t.Errorf("%s is called at %d, want %d", s, got, want)
		}
	}
	if got := impl.PrgNode(p, places(name("e", 2), read("a")[0], variable(8))); got != 1 {
		t.Errorf("what may not stand in a clause is called at %d", got)
	}
	deep := append(places(name("e", 2)), append(chain(20), chain(19)...)...)
	if got := impl.PrgNode(p, deep); got != 1 {
		t.Errorf("the greatest term is called at %d", got)
	}
	for _, x := range wrongPlaces() {
		if got := impl.PrgNode(p, x); got != -1 {
			t.Errorf("%v is called at %d", x, got)
		}
	}
	for _, x := range [][]cell{places(name("e", 2)), places(name("e", 2), variable(0)), append(places(name("e", 2)), append(chain(20), chain(20)...)...), places(name("e", 0), name("e", 0))} {
		if got := impl.PrgNode(p, x); got != -1 {
			t.Errorf("what is no term is called at %d", got)
		}
	}
}

// TestAloneAllIsAtOneNode: promise 25.
func TestAloneAllIsAtOneNode(t *testing.T) {
	placesTold := 0
	for _, p := range somePrograms() {
		alone := impl.PrgAlone(p)
		if !impl.PrgOk(alone) || len(alone.Places) != 0 || !sameValue(alone.Clauses, p.Clauses) {
			t.Errorf("%v is alone %v", p, alone)
		}
		for _, at := range p.Places {
			placesTold++
			if got := impl.PrgNode(alone, append(places(name(at.Name, at.N)), slices.Repeat(read("a"), at.N)...)); got != 0 {
				t.Errorf("alone %v is called at %d", at, got)
			}
		}
		if again := impl.PrgAlone(alone); !sameValue(again, alone) {
			t.Errorf("alone once more it is %v", again)
		}
	}
	if placesTold < 1000 {
		t.Errorf("only %d names are told", placesTold)
	}
}

// TestTwoProgramsAreOne: promise 67.
func TestTwoProgramsAreOne(t *testing.T) {
	all := somePrograms()
	fit, apart := 0, 0
	for k, p := range all {
		other := all[(k*7+3)%len(all)]
		both := prog{Places: p.Places, Clauses: slices.Concat(p.Clauses, other.Clauses)}
		if len(p.Clauses)+len(other.Clauses) > impl.PrgClauses {
			apart++
			if impl.PrgOk(both) || len(impl.PrgPrint(both)) != 0 {
				t.Errorf("%d clauses are ok", len(both.Clauses))
			}
			continue
		}
		fit++
		lines := slices.Concat(impl.PrgPrint(p), impl.PrgPrint(impl.PrgAlone(other)))
		if !impl.PrgOk(both) || !slices.Equal(impl.PrgPrint(both), lines) {
			t.Errorf("%q and %q are together %q", impl.PrgPrint(p), impl.PrgPrint(other), impl.PrgPrint(both))
		}
		if parsed, wrong := impl.PrgParse(lines); wrong != 0 || !sameValue(parsed, both) {
			t.Errorf("%q are read as %v, %d", lines, parsed, wrong)
		}
	}
	if fit < 300 || apart < 300 {
		t.Errorf("only %d fit together, %d do not", fit, apart)
	}
}

// TestPartOfAProgramIsOne: promise 88.
func TestPartOfAProgramIsOne(t *testing.T) {
	shorter, told := 0, 0
	for _, p := range somePrograms() {
		lines := impl.PrgPrint(p)
		if len(lines) != len(p.Places)+len(p.Clauses) {
			t.Errorf("%v has %d lines", p, len(lines))
		}
		if n := len(p.Clauses); n > 0 {
			shorter++
			part := prog{Places: p.Places, Clauses: p.Clauses[:n-1]}
			if !impl.PrgOk(part) || !slices.Equal(impl.PrgPrint(part), lines[:len(lines)-1]) {
				t.Errorf("without its last clause %v has the lines %q", p, impl.PrgPrint(part))
			}
		}
		if len(p.Places) > 0 {
			told++
		}
		part := prog{Clauses: p.Clauses}
		if !impl.PrgOk(part) || !slices.Equal(impl.PrgPrint(part), lines[len(p.Places):]) {
			t.Errorf("without nodes %v has the lines %q", p, impl.PrgPrint(part))
		}
	}
	if shorter < 500 || told < 500 {
		t.Errorf("only %d have clauses, %d tell nodes", shorter, told)
	}
}
