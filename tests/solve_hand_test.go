package tests

import (
	"slices"
	"testing"

	"loop.example/catechist/impl"
)

type handAsked struct {
	question, want string
}

// checkHand asks questions of one program, and holds their outcomes against what is written.
func checkHand(t *testing.T, p prog, all ...handAsked) {
	t.Helper()
	for _, one := range all {
		if got, _ := written(p, one.question, 20, 400); got != one.want {
			t.Errorf("%s: %s, want %s", one.question, got, one.want)
		}
	}
}

// TestExampleOfTheDocument: its last chapter's program and questions.
func TestExampleOfTheDocument(t *testing.T) {
	p := program("at 1 e 2", "at 2 p 2", "e(a,b)", "e(b,c)", "e(a,c)", "p(X0,X1) if e(X0,X1)", "p(X0,X2) if e(X0,X1) and p(X1,X2)", "q(X0) if p(a,X0) and !", "q(z)")
	checkHand(t, p, handAsked{"p(a,X0)", "p(a,b); p(a,c); p(a,c); none; "}, handAsked{"q(X0)", "q(b); none; "})
}

// TestWhereACutStands: ahead of, between and behind calls.
func TestWhereACutStands(t *testing.T) {
	p := program("k(1)", "k(2)", "k(3)",
		"a(X0,X1) if ! and k(X0) and k(X1)", "a(7,7)",
		"b(X0,X1) if k(X0) and ! and k(X1)", "b(7,7)",
		"c(X0,X1) if k(X0) and k(X1) and !", "c(7,7)",
		"d(X0) if k(X0) and X0 = 2 and ! and k(X0)", "d(X0) if k(X0)")
	checkHand(t, p,
		handAsked{"a(X0,X1)", "a(1,1); a(1,2); a(1,3); a(2,1); a(2,2); a(2,3); a(3,1); a(3,2); a(3,3); none; "},
		handAsked{"a(7,7)", "none; "},
		handAsked{"b(X0,X1)", "b(1,1); b(1,2); b(1,3); none; "},
		handAsked{"b(3,X0)", "b(3,1); b(3,2); b(3,3); none; "},
		handAsked{"b(7,7)", "b(7,7); none; "},
		handAsked{"c(X0,X1)", "c(1,1); none; "},
		handAsked{"c(X0,3)", "c(1,3); none; "},
		handAsked{"c(7,X0)", "c(7,7); none; "},
		handAsked{"d(X0)", "d(2); none; "},
		handAsked{"d(3)", "d(3); none; "})
}

// TestCutInAClauseThatIsCalled: the choices of those that called it stay, those of its own name and of what it called do not.
func TestCutInAClauseThatIsCalled(t *testing.T) {
	p := program("k(1)", "k(2)",
		"once(X0) if k(X0) and !", "once(9)",
		"outer(X0,X1) if k(X0) and once(X1)", "outer(8,8)",
		"twice(X0,X1) if once(X0) and k(X1)", "twice(8,8)",
		"deep(X0,X1) if outer(X0,X1) and !", "deep(8,8)",
		"more(X0) if once(X0)", "more(5)")
	checkHand(t, p,
		handAsked{"once(X0)", "once(1); none; "},
		handAsked{"once(9)", "once(9); none; "},
		handAsked{"outer(X0,X1)", "outer(1,1); outer(2,1); outer(8,8); none; "},
		handAsked{"outer(X0,2)", "outer(1,2); outer(2,2); none; "},
		handAsked{"outer(X0,9)", "outer(1,9); outer(2,9); none; "},
		handAsked{"twice(X0,X1)", "twice(1,1); twice(1,2); twice(8,8); none; "},
		handAsked{"deep(X0,X1)", "deep(1,1); none; "},
		handAsked{"more(X0)", "more(1); more(5); none; "})
}

// TestCutOfACallThatCallsItself: each time it leaves what there was ahead of that call.
func TestCutOfACallThatCallsItself(t *testing.T) {
	p := program("mem(X0,c(X0,X1)) if !", "mem(X0,c(X1,X2)) if mem(X0,X2)",
		"each(X0,c(X0,X1))", "each(X0,c(X1,X2)) if each(X0,X2)",
		"both(X0) if each(X0,c(1,c(2,c(3,nil)))) and mem(X0,c(3,c(2,c(2,nil))))",
		"max(X0,X1,X0) if X1 < X0 and !", "max(X0,X1,X1)")
	checkHand(t, p,
		handAsked{"mem(X0,c(1,c(2,nil)))", "mem(1,c(1,c(2,nil))); none; "},
		handAsked{"mem(2,c(1,c(2,nil)))", "mem(2,c(1,c(2,nil))); none; "},
		handAsked{"each(X0,c(1,c(2,nil)))", "each(1,c(1,c(2,nil))); each(2,c(1,c(2,nil))); none; "},
		handAsked{"both(X0)", "both(2); both(3); none; "},
		handAsked{"max(3,2,X0)", "max(3,2,3); none; "},
		handAsked{"max(2,3,X0)", "max(2,3,3); none; "},
		handAsked{"max(2,2,X0)", "max(2,2,2); none; "})
}

// TestHowManyChoicesACutLeaves: step by step.
func TestHowManyChoicesACutLeaves(t *testing.T) {
	p := program("w(X0) if k(X0) and v(X0) and !", "w(6)", "v(X0) if k(X1) and !", "v(5)", "k(1)", "k(2)")
	s := impl.SlvNew(read("w(X0)"))
	var choices, cuts []int
	for s.Status == impl.SlvGoes {
		choices = append(choices, len(s.Choices))
		cut := -1
		if len(s.Goals) > 0 && s.Goals[0].Goal.Kind == impl.GoalCut {
			cut = s.Goals[0].Cut
		}
		cuts = append(cuts, cut)
		s = impl.SlvStep(p, s)
	}
	// w; k; the end of k; v; k; the end of k; the cut of v; the end of v; the cut of w; the end of w; the answer.
	if want := []int{0, 1, 2, 2, 3, 4, 4, 2, 2, 0, 0}; !slices.Equal(choices, want) {
		t.Errorf("choices %v, want %v", choices, want)
	}
	if want := []int{-1, -1, -1, -1, -1, -1, 2, -1, 0, -1, -1}; !slices.Equal(cuts, want) {
		t.Errorf("cuts %v, want %v", cuts, want)
	}
	if s.Status != impl.SlvAnswer || len(s.Choices) != 0 || impl.SlvStep(p, s).Status != impl.SlvNone {
		t.Errorf("at last it is %v", s)
	}
}

// TestCutFromAChoice: a clause that is tried from a choice has as many choices ahead of it as there are without that one.
func TestCutFromAChoice(t *testing.T) {
	p := program("w(a) if ! and z", "w(b) if ! and k", "w(c) if !", "k")
	s := impl.SlvStep(p, impl.SlvNew(read("w(X0)")))
	if len(s.Choices) != 1 || s.Goals[0].Cut != 0 {
		t.Fatalf("%v", s)
	}
	// Without the first cut done it goes back to the second clause.
	s.Goals[0].Goal = callOf("z")
	s = impl.SlvStep(p, s)
	if len(s.Choices) != 1 || s.Choices[0].Next != 2 || s.Goals[0].Goal.Kind != impl.GoalCut || s.Goals[0].Cut != 0 {
		t.Fatalf("%v", s)
	}
	checkHand(t, p, handAsked{"w(X0)", "none; "}, handAsked{"w(b)", "w(b); none; "}, handAsked{"w(c)", "w(c); none; "})
}

// goalState is solving with that goal alone, by bindings, with a choice of which the call fits or none.
func goalState(g goal, s []binding, back bool) state {
	one := state{Status: impl.SlvGoes, Goals: []pending{{Goal: g}}, Binds: s, Vars: 50, Top: read("w(X0)")}
	if back {
		one.Choices = []choice{{Vars: 40, Call: read("k(X3)"), Next: 0}}
	}
	return one
}

// TestWhatIsNoNumber: variables that are not bound, names, and sums beyond.
func TestWhatIsNoNumber(t *testing.T) {
	p := program("k(1)", "k(2)")
	s := binds("X1=X2", "X2=5", "X3=X4", "X5=a", "X6=g(X2)", "X7=X6", "X8=9999", "X9=-9999")
	big := append(copyBinds(s), doubling(12)[10:]...)
	big = append(big, binds("X12=f(X13,X13)", "X13=f(X14,X14)", "X14=f(X15,X15)", "X15=f(X16,X16)")...)
	for _, back := range []bool{false, true} {
		for _, x := range []string{"X0", "X3", "X4", "a", "X5", "X6", "X7", "g(1)", "f(X0,1)", "X10"} {
			for _, y := range []string{"1", "X1", "X0", "a", "X10"} {
				for _, g := range []goal{lessOf(x, y), lessOf(y, x), plusOf(x, y, "X0"), plusOf(y, x, "X0"), plusOf(x, y, "7"), plusOf(x, y, "X10")} {
					if got := impl.SlvStep(p, goalState(g, big, back)); !sameValue(got, state{Status: impl.SlvWrong, Top: read("w(X0)")}) {
						t.Errorf("%s: %v", impl.GoalText(g), got)
					}
				}
			}
		}
		for _, g := range []goal{plusOf("9999", "1", "X0"), plusOf("X8", "X2", "X0"), plusOf("-9999", "-1", "X0"), plusOf("X9", "X9", "X0"), plusOf("X8", "X8", "a"), plusOf("9999", "1", "9999"), plusOf("X8", "1", "X10")} {
			if got := impl.SlvStep(p, goalState(g, big, back)); !sameValue(got, state{Status: impl.SlvWrong, Top: read("w(X0)")}) {
				t.Errorf("beyond, %s: %v", impl.GoalText(g), got)
			}
		}
	}
}

// TestWhatIsANumber: numbers, and variables that are bound to them.
func TestWhatIsANumber(t *testing.T) {
	p := program("k(1)", "k(2)")
	s := binds("X1=X2", "X2=5", "X8=9999", "X9=-9999", "X5=a")
	back := impl.SlvStep(p, goalState(callOf("no"), s, true))
	if back.Status != impl.SlvGoes || len(back.Binds) != 1 || back.Vars != 48 || len(back.Choices) != 1 {
		t.Fatalf("back it is %v", back)
	}
	for _, one := range []struct {
		g    goal
		more string
		ok   bool
	}{
		{lessOf("1", "2"), "", true}, {lessOf("X1", "6"), "", true}, {lessOf("4", "X1"), "", true}, {lessOf("X9", "X8"), "", true}, {lessOf("-9999", "-9998"), "", true},
		{lessOf("2", "1"), "", false}, {lessOf("X1", "X2"), "", false}, {lessOf("5", "X1"), "", false}, {lessOf("9999", "9999"), "", false}, {lessOf("X8", "X9"), "", false},
		{plusOf("1", "2", "X0"), "X0=3", true}, {plusOf("X1", "X2", "X0"), "X0=10", true}, {plusOf("X8", "X9", "X0"), "X0=0", true}, {plusOf("9998", "1", "X0"), "X0=9999", true}, {plusOf("X8", "0", "X0"), "X0=9999", true},
		{plusOf("-9998", "-1", "X0"), "X0=-9999", true}, {plusOf("2", "3", "X1"), "", true}, {plusOf("2", "3", "5"), "", true}, {plusOf("X8", "0", "X8"), "", true},
		{plusOf("2", "3", "X8"), "", false}, {plusOf("2", "3", "6"), "", false}, {plusOf("2", "3", "a"), "", false}, {plusOf("2", "3", "X5"), "", false}, {plusOf("2", "3", "g(X0)"), "", false},
	} {
		got, want := impl.SlvStep(p, goalState(one.g, s, true)), back
		if one.ok {
			want = goalState(one.g, s, true)
			want.Goals = nil
			if one.more != "" {
				want.Binds = append(copyBinds(s), binds(one.more)...)
			}
		}
		if !sameValue(got, want) {
			t.Errorf("%s: %v, want %v", impl.GoalText(one.g), got, want)
		}
		if alone := impl.SlvStep(p, goalState(one.g, s, false)); alone.Status != map[bool]int{true: impl.SlvGoes, false: impl.SlvNone}[one.ok] {
			t.Errorf("%s, without a choice: %v", impl.GoalText(one.g), alone)
		}
	}
	// A sum is made the same as C, and C may be too big for that.
	big := append(doubling(6), binds("X6=a")...)
	if got := impl.SlvStep(p, goalState(plusOf("2", "3", "X0"), big, true)); got.Status != impl.SlvBig {
		t.Errorf("with a sum that is too big: %v", got)
	}
}

// TestWhatIsTooBig: a call, that two terms are the same, the end of a call, a clause's head, and an answer.
func TestWhatIsTooBig(t *testing.T) {
	p := program("k(1)", "k(f(X0,X0))", "m(X0,X0)", "w(X0)")
	// X0 is a term of 39 places, X1 one of 40.
	s := []binding{{Var: 0, Term: chain(impl.TrmMost - 1)}, {Var: 1, Term: chain(impl.TrmMost)}}
	for _, one := range []struct {
		g   goal
		big bool
	}{
		{callOf("w(X0)"), false}, {callOf("w(X1)"), true}, {callOf("no(X1)"), true}, {callOf("no(X0)"), false},
		{sameOf("X1", "X2"), false}, {sameOf("X2", "X1"), false}, {sameOf("g(X0)", "X2"), false}, {sameOf("g(X1)", "X2"), true}, {sameOf("X2", "g(X1)"), true}, {sameOf("a", "g(X1)"), true},
		{sameOf("g(X2)", "g(X0)"), false}, {sameOf("g(X2)", "h(X1,a,a)"), true}, {sameOf("f(X2,X2)", "f(X0,X0)"), true}, {sameOf("f(X2,X2)", "f(X3,X0)"), true}, {sameOf("X2", "X3"), false},
		{goal{Kind: impl.GoalExit, A: read("w(X0)")}, false}, {goal{Kind: impl.GoalExit, A: read("w(X1)")}, true}, {goal{Kind: impl.GoalExit, A: read("no(X1)")}, true},
		{callOf("m(X0,X2)"), true}, {callOf("m(X2,X0)"), true}, {callOf("m(X2,X3)"), false},
	} {
		one0 := goalState(one.g, s, true)
		one0.Top = read("z")
		got := impl.SlvStep(p, one0)
		if big := got.Status == impl.SlvBig; big != one.big || !sameValue(got, plainStep(p, one0)) {
			t.Errorf("%v: %v", one.g, got)
		}
		if one.big && !sameValue(got, state{Status: impl.SlvBig, Top: read("z")}) {
			t.Errorf("%v: it ends with %v", one.g, got)
		}
	}
	for n, want := range map[int]int{impl.TrmMost - 2: impl.SlvAnswer, impl.TrmMost - 1: impl.SlvAnswer, impl.TrmMost: impl.SlvBig} {
		one := state{Status: impl.SlvGoes, Binds: []binding{{Var: 0, Term: chain(n)}}, Vars: 1, Top: read("w(X0)")}
		got := impl.SlvStep(p, one)
		if got.Status != want || want == impl.SlvAnswer && len(got.Out) != n+1 {
			t.Errorf("an answer of %d places: %v", n+1, got)
		}
	}
	grow := program("grow(X0) if grow(g(X0))")
	// Each call has a place more than the one ahead of it, up to 40; the next one is too big.
	if got, steps := written(grow, "grow(a)", 9, 400); got != "too big; " || steps != 40 {
		t.Errorf("%s in %d", got, steps)
	}
}

// TestEnds: going back without a choice, and what is told at an end.
func TestEnds(t *testing.T) {
	p := program("k(1)", "k(2)", "bad(X0) if k(X0) and X0 < a", "late(X0) if k(X0)", "late(X0) if X0 < 1", "late(3)", "grow(X0) if k(X0)", "grow(X0) if grow(g(X0))")
	checkHand(t, p,
		handAsked{"bad(X0)", "wrong; "},
		handAsked{"bad(3)", "none; "},
		handAsked{"late(X0)", "late(1); late(2); wrong; "},
		handAsked{"late(2)", "late(2); none; "},
		handAsked{"late(0)", "late(0); none; "},
		handAsked{"late(3)", "late(3); none; "},
		handAsked{"late(a)", "wrong; "},
		handAsked{"grow(X0)", "grow(1); grow(2); too big; "})
	for question, want := range map[string]int{"k(3)": impl.SlvNone, "late(a)": impl.SlvWrong, "grow(a)": impl.SlvBig} {
		s := impl.SlvNew(read(question))
		for range 100 {
			s = impl.SlvStep(p, s)
		}
		if !sameValue(s, state{Status: want, Top: read(question)}) {
			t.Errorf("%s ends with %v", question, s)
		}
		// By more steps, and more wanted, nothing comes behind the end.
		outs, steps := impl.SlvOuts(p, read(question), 1, impl.SlvFuel)
		more, moreSteps := impl.SlvOuts(p, read(question), 1000, impl.SlvFuel)
		if len(outs) != 1 || outs[0].Status != want || len(outs[0].Term) != 0 || !sameOuts(outs, more) || steps != moreSteps {
			t.Errorf("%s: %s in %d, and then %s in %d", question, showOuts(outs), steps, showOuts(more), moreSteps)
		}
		for fuel := 1; fuel < steps; fuel++ {
			if got, n := impl.SlvOuts(p, read(question), 1000, fuel); len(got) != 0 || n != fuel {
				t.Errorf("%s by %d steps: %s in %d", question, fuel, showOuts(got), n)
			}
		}
	}
}

// TestGoingBackSkipsWhatDoesNotFit: in one step, over clauses and over choices.
func TestGoingBackSkipsWhatDoesNotFit(t *testing.T) {
	p := program("e(a,1)", "e(b,2)", "e(c,3)", "e(d,4)", "w(X0) if e(X0,X1) and e(X2,X3) and X1 = 4")
	if got, steps := written(p, "e(d,X0)", 1, 100); got != "e(d,4); " || steps != 3 {
		t.Errorf("%s in %d", got, steps)
	}
	if got, steps := written(p, "e(z,X0)", 1, 100); got != "none; " || steps != 1 {
		t.Errorf("%s in %d", got, steps)
	}
	s := state{Status: impl.SlvGoes, Goals: []pending{{Goal: callOf("no")}}, Top: read("z")}
	for range 5000 {
		s.Choices = append(s.Choices, choice{Call: read("e(z,z)"), Next: 0})
	}
	if got := impl.SlvStep(p, s); !sameValue(got, state{Status: impl.SlvNone, Top: s.Top}) {
		t.Errorf("over all choices it is %.300v", got)
	}
	s.Choices[0].Call = read("e(c,3)")
	if got := impl.SlvStep(p, s); got.Status != impl.SlvGoes || len(got.Choices) != 1 || got.Choices[0].Next != 3 || got.Vars != impl.PrgFree {
		t.Errorf("over all choices but one it is %.300v", got)
	}
}

// TestWhatWasBoundIsGoneBehindAChoice: a variable that was bound on another way is not bound any more, and may be bound to another thing.
func TestWhatWasBoundIsGoneBehindAChoice(t *testing.T) {
	p := program("w(X0,X1,X2) if one(X0,X1) and two(X0,X1,X2)", "one(X0,X1) if X0 = a and X1 = g(X0) and z", "one(X0,X1) if X1 = b and z(X0)", "one(X0,X1) if X0 = g(X1)", "one(c,X0)",
		"two(X0,X1,X2) if X2 = X0 and X1 = 1 and z", "two(X0,X1,X2) if X1 = 2 and X2 = X1", "two(X0,X1,3)")
	checkHand(t, p, handAsked{"w(X0,X1,X2)", "w(g(2),2,2); w(g(X0),X0,3); w(c,2,2); w(c,X0,3); none; "},
		handAsked{"w(X0,X0,X1)", "w(c,c,3); none; "}, handAsked{"one(X0,X1)", "one(g(X0),X0); one(c,X0); none; "})
}

// TestAllStepsOfAVastRun: many steps at once are done in no long time, whatever is kept beside the choices. By the ring the d-th answer takes 7 + d steps, and the first one 5; by the numbers the answer k takes 4 + 2k, and 0 takes 3.
func TestAllStepsOfAVastRun(t *testing.T) {
	for _, one := range []struct {
		p        prog
		question string
		answers  int
	}{
		{program("p(X0) if p(X0)", "p(X0) if p(X0)"), "p(X0)", 0},
		{program("p(X0) if p(X0) and p(X0)", "p(a)"), "p(X0)", 0},
		{program("e(a,b)", "e(b,a)", "p(X0,X1) if e(X0,X1)", "p(X0,X2) if e(X0,X1) and p(X1,X2)"), "p(a,X0)", 147},
		{program("n(0)", "n(X0) if n(X1) and X1 + 1 = X0"), "n(X0)", 108},
	} {
		outs, steps := impl.SlvOuts(one.p, read(one.question), impl.SlvFuel, impl.SlvFuel)
		if steps != impl.SlvFuel || len(outs) != one.answers || len(answersOf(outs)) != one.answers {
			t.Errorf("%s: %d outcomes in %d steps", one.question, len(outs), steps)
		}
	}
}
