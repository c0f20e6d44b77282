package tests

import (
	"slices"
	"testing"

	"loop.example/catechist/impl"
)

// farProg has clauses at each node, and names at other nodes of which no clause is.
func farProg() prog {
	return program("at 1 e 2", "at 2 k 1", "at 1 no 1", "e(a,b)", "e(b,c)", "k(1)", "k(2)", "h(X0) if e(X0,X1)", "h(c)", "h(X0) if k(X0)", "z", "y(b)")
}

// callState is solving that has a call to do, with a goal behind it.
func callState(call string, vars int, choices ...trailChoice) trailState {
	return trailState{
		Status: impl.SlvGoes, Goals: []pending{{Goal: callOf(call)}, {Goal: sameOf("X2", "b")}}, Binds: binds("X1=X3", "X3=g(X4)"), Vars: vars, Choices: choices, Top: read("z"),
	}
}

// TestFarCallIsWaitedFor: there is a choice more, and nothing is tried, whatever clauses and variables there are.
func TestFarCallIsWaitedFor(t *testing.T) {
	near := trailChoice{Mark: 1, Vars: 5, Call: read("h(X4)"), Next: 6}
	for _, vars := range []int{5, 50, impl.TrmVars - impl.PrgFree, impl.TrmVars - impl.PrgFree + 1, impl.TrmVars} {
		for _, one := range []struct {
			call, full string
			node       int
		}{{"e(X0,X1)", "e(X0,g(X4))", 1}, {"k(X1)", "k(g(X4))", 2}, {"no(X2)", "no(X2)", 1}, {"h(X1)", "h(g(X4))", 0}, {"zz(X3)", "zz(g(X4))", 0}, {"e(X0)", "e(X0)", 0}} {
			for _, node := range farNodes() {
				s := callState(one.call, vars, near)
				got := impl.TrlStep(farProg(), node, s)
				if node == one.node {
					if got.Status == impl.SlvWaits || !sameValue(got, plainTrailStep(farProg(), node, s)) {
						t.Errorf("%s %s, with %d variables: %v", one.call, atNode(node), vars, got)
					}
					continue
				}
				want := trailState{
					Status: impl.SlvWaits, Binds: s.Binds, Vars: vars, Top: s.Top,
					Choices: []trailChoice{near, {Goals: s.Goals[1:], Mark: 2, Vars: vars, Call: read(one.full), Far: 1}},
				}
				if !sameValue(got, want) || !impl.TrlOk(farProg(), node, got) {
					t.Errorf("%s %s, with %d variables: %v, want %v", one.call, atNode(node), vars, got, want)
				}
				if top, n := impl.TrlWants(got); n != 1 || !slices.Equal(top, plainCanon(read(one.full))) {
					t.Errorf("%s %s waits for %v, %d", one.call, atNode(node), top, n)
				}
			}
		}
	}
}

// TestNearCallAtTheLastVariables: what is done here needs variables, and what is far does not.
func TestNearCallAtTheLastVariables(t *testing.T) {
	for vars, want := range map[int]int{impl.TrmVars - impl.PrgFree - 1: impl.SlvGoes, impl.TrmVars - impl.PrgFree: impl.SlvGoes, impl.TrmVars - impl.PrgFree + 1: impl.SlvBig, impl.TrmVars: impl.SlvBig} {
		for _, one := range []struct {
			call string
			node int
		}{{"e(X0,X0)", -1}, {"e(X0,X2)", 1}, {"k(X2)", 2}, {"k(X0)", -1}, {"h(X2)", 0}, {"z", -1}} {
			s := callState(one.call, vars)
			got := impl.TrlStep(farProg(), one.node, s)
			expected := want
			if one.call == "e(X0,X0)" && want == impl.SlvGoes {
				expected = impl.SlvNone
			}
			if got.Status != expected || !sameValue(got, plainTrailStep(farProg(), one.node, s)) {
				t.Errorf("%s %s, with %d variables: %v", one.call, atNode(one.node), vars, got)
			}
			if got.Status == impl.SlvGoes && (got.Vars != vars+impl.PrgFree || !impl.TrlOk(farProg(), one.node, got)) {
				t.Errorf("%s %s, with %d variables, is then %v", one.call, atNode(one.node), vars, got)
			}
			if got.Status == impl.SlvBig && !sameValue(got, trailState{Status: impl.SlvBig, Top: s.Top}) {
				t.Errorf("%s %s, with %d variables, ends with %v", one.call, atNode(one.node), vars, got)
			}
		}
	}
}

// TestFarCallTooBig: it ends, as what is done here does.
func TestFarCallTooBig(t *testing.T) {
	for n, want := range map[int]int{impl.TrmMost - 1: impl.SlvWaits, impl.TrmMost: impl.SlvBig} {
		s := trailState{Status: impl.SlvGoes, Goals: []pending{{Goal: callOf("k(X0)")}}, Binds: []binding{{Var: 0, Term: chain(n)}}, Vars: 1, Top: read("z")}
		got := impl.TrlStep(farProg(), 0, s)
		if got.Status != want || want == impl.SlvBig && !sameValue(got, trailState{Status: want, Top: s.Top}) {
			t.Errorf("a far call of %d places: %v", n+1, got)
		}
	}
}

// TestNothingIsFarWithoutNodes: at node -1, and where all is done at one node.
func TestNothingIsFarWithoutNodes(t *testing.T) {
	for _, q := range spreadPosed(200) {
		for _, one := range []struct {
			p    prog
			node int
		}{{q.p, -1}, {impl.PrgAlone(q.p), -1}, {impl.PrgAlone(q.p), 0}} {
			s := impl.TrlNew(q.top)
			for k := 0; k < 30 && !plainEnded(s.Status); k++ {
				s = impl.TrlStep(one.p, one.node, s)
				if _, n := impl.TrlWants(s); n != 0 || s.Status == impl.SlvWaits || slices.ContainsFunc(s.Choices, func(c trailChoice) bool { return c.Far != 0 }) {
					t.Fatalf("%v: %s it waits: %v", q, atNode(one.node), s)
				}
			}
		}
	}
	// At a node none of whose calls is done there the first one is waited for.
	for _, q := range spreadPosed(50) {
		if s := impl.TrlStep(impl.PrgAlone(q.p), 1, impl.TrlNew(q.top)); s.Status != impl.SlvWaits {
			t.Errorf("%v: %v", q, s)
		}
	}
}

// farChoice is a choice of k at another node, with a goal behind it.
func farChoice(mark, vars, far int) trailChoice {
	return trailChoice{Goals: []pending{{Goal: callOf("h(X0)")}}, Mark: mark, Vars: vars, Call: read("k(X2)"), Far: far}
}

// TestBackToAFarChoice: what is bound behind it is let go of, it is waited for so again, and the choice stays; whatever it goes back for.
func TestBackToAFarChoice(t *testing.T) {
	p := farProg()
	first := trailChoice{Mark: 0, Vars: 5, Call: read("h(X4)"), Next: 5}
	// Those behind the far choice have no clause that fits any more.
	gone := trailChoice{Mark: 3, Vars: 30, Call: read("y(d)"), Next: 8}
	all := binds("X1=X3", "X3=g(X4)", "X5=1", "X6=2")
	causes := []goal{sameOf("X5", "X6"), lessOf("X6", "X5"), plusOf("X5", "X6", "X6"), callOf("zz(X6)"), callOf("y(X6)")}
	for _, far := range []int{1, 2, 77, impl.SlvFuel} {
		for mark := 0; mark <= 3; mark++ {
			keep := []trailChoice{first, farChoice(mark, 20, far)}
			want := trailState{Status: impl.SlvWaits, Binds: all[:mark], Vars: 20, Choices: keep, Top: read("z")}
			for _, behind := range [][]trailChoice{nil, {gone}, {gone, gone, gone}} {
				s := trailState{Status: impl.SlvAnswer, Binds: all, Vars: 40, Choices: slices.Concat(keep, behind), Top: read("z"), Out: read("z")}
				checkWaits(t, p, 0, s, want)
				s.Status, s.Out = impl.SlvGoes, nil
				for _, g := range causes {
					s.Goals = []pending{{Goal: g}, {Goal: callOf("z")}}
					checkWaits(t, p, 0, s, want)
				}
			}
		}
	}
	// At node 1 the call of e is done there, and that of k is far.
	s := trailState{Status: impl.SlvGoes, Goals: []pending{{Goal: callOf("e(X0,d)")}}, Binds: all, Vars: 40, Choices: []trailChoice{farChoice(2, 20, 3)}, Top: read("z")}
	checkWaits(t, p, 1, s, trailState{Status: impl.SlvWaits, Binds: all[:2], Vars: 20, Choices: s.Choices, Top: s.Top})
}

// checkWaits: a step goes back to a choice that is far.
func checkWaits(t *testing.T, p prog, node int, s, want trailState) {
	t.Helper()
	if got := impl.TrlStep(p, node, s); !sameValue(got, want) || !impl.TrlOk(p, node, got) {
		t.Errorf("%v is %v, want %v", s, got, want)
	}
}

// TestNearChoiceOfAnotherNodesCall: what is not far has clauses to be tried by, wherever its name is called.
func TestNearChoiceOfAnotherNodesCall(t *testing.T) {
	p := farProg()
	s := trailState{Status: impl.SlvAnswer, Vars: 3, Choices: []trailChoice{{Vars: 3, Call: read("k(X2)"), Next: 2}}, Top: read("z"), Out: read("z")}
	for _, node := range allNodes() {
		got := impl.TrlStep(p, node, s)
		want := trailState{
			Status: impl.SlvGoes, Goals: []pending{{Goal: goal{Kind: impl.GoalExit, A: read("k(X2)")}}}, Binds: binds("X2=1"), Vars: 3 + impl.PrgFree,
			Choices: []trailChoice{{Vars: 3, Call: read("k(X2)"), Next: 3}}, Top: s.Top,
		}
		if !sameValue(got, want) {
			t.Errorf("%s: %v, want %v", atNode(node), got, want)
		}
	}
}

// TestCutTakesFarChoicesAway: those behind it are not waited for any more.
func TestCutTakesFarChoicesAway(t *testing.T) {
	p := farProg()
	for cut := 0; cut <= 4; cut++ {
		choices := []trailChoice{farChoice(0, 5, 2), {Mark: 0, Vars: 5, Call: read("h(X4)"), Next: 5}, farChoice(1, 9, 1), farChoice(1, 9, impl.SlvFuel)}
		s := trailState{Status: impl.SlvGoes, Goals: []pending{{Goal: cutHere(), Cut: cut}, {Goal: callOf("z")}}, Binds: binds("X1=X3"), Vars: 9, Choices: choices, Top: read("z")}
		want := s
		want.Goals, want.Choices = s.Goals[1:], choices[:cut]
		if got := impl.TrlStep(p, 0, s); !sameValue(got, want) {
			t.Errorf("behind a cut that leaves %d it is %v, want %v", cut, got, want)
		}
	}
	// By clauses: behind the cut of q there is one far choice less, and behind its answer none is waited for.
	q := posed{program("at 1 e 1", "e(a)", "e(b)", "q(X0) if e(X0) and !", "q(z)", "s(X0) if e(X1) and q(X0)"), read("q(X0)")}
	states := trailsOf(q, 0, 20)
	waits := 0
	for _, s := range states {
		if _, n := impl.TrlWants(s); n > 0 {
			waits++
		}
	}
	if got := showOuts(outsAt(q, 0, 9, 50)); got != "q(a); none; " || waits != 1 {
		t.Errorf("%s, and it waits %d times", got, waits)
	}
	q.top = read("s(X0)")
	if got := showOuts(outsAt(q, 0, 9, 50)); got != "s(a); s(a); none; " {
		t.Errorf("%s", got)
	}
	// The question's own far choice, ahead of the cut, stays.
	for _, s := range trailsOf(q, 0, 20) {
		if s.Status == impl.SlvAnswer && (len(s.Choices) != 1 || s.Choices[0].Far < 2) {
			t.Errorf("behind a cut within a call: %v", s)
		}
	}
}
