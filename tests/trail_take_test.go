package tests

import (
	"math"
	"slices"
	"testing"

	"loop.example/catechist/impl"
)

func answer(text string) outcome { return outcome{Status: impl.SlvAnswer, Term: read(text)} }

// sameWait says whether solving waits by the same choice for the same outcome.
func sameWait(a, b trailState) bool {
	if a.Status != impl.SlvWaits || b.Status != impl.SlvWaits || len(a.Choices) != len(b.Choices) {
		return false
	}
	n := len(a.Choices) - 1
	return a.Choices[n].Far == b.Choices[n].Far
}

// notWanted are a question, an outcome's number, and an outcome, each with something that is not waited for.
func notWanted(want []cell, n int, o outcome) []struct {
	top []cell
	n   int
	o   outcome
} {
	type one = struct {
		top []cell
		n   int
		o   outcome
	}
	all := []one{
		{want, n - 1, o}, {want, n + 1, o}, {want, 0, o}, {want, -1, o}, {want, -n, o}, {want, math.MaxInt, o}, {want, math.MinInt, o},
		{nil, n, o}, {nil, 0, o}, {want[:len(want)-1], n, o}, {append(slices.Clone(want), want[0]), n, o}, {read("zz"), n, o}, {read("X0"), n, o},
		{want, n, outcome{}}, {want, n, outcome{Status: impl.SlvGoes}}, {want, n, outcome{Status: impl.SlvWaits}}, {want, n, outcome{Status: 7}}, {want, n, outcome{Status: -1}},
		{want, n, outcome{Status: impl.SlvAnswer}}, {want, n, answer("zz")}, {want, n, answer("7")}, {want, n, outcome{Status: impl.SlvAnswer, Term: want[:len(want)-1]}},
	}
	for _, status := range []int{impl.SlvNone, impl.SlvBig, impl.SlvWrong, impl.SlvGoes} {
		all = append(all, one{want, n, outcome{Status: status, Term: want}})
	}
	// A question of other variables, and an answer that is not numbered as they come first.
	if on := impl.TrmShift(want, 1); !slices.Equal(on, want) {
		all = append(all, one{on, n, o}, one{want, n, outcome{Status: impl.SlvAnswer, Term: on}})
	}
	return all
}

// TestJustWhatIsWaitedForIsTaken: promise 35, and what is waited for is one that may be asked, as promise 36 has it.
func TestJustWhatIsWaitedForIsTaken(t *testing.T) {
	t.Parallel()
	waits, again := 0, 0
	for _, q := range spreadPosed(250) {
		for _, node := range farNodes() {
			for _, s := range trailsOf(q, node, 30) {
				want, n := impl.TrlWants(s)
				checkWants(t, q.p, node, s, want, n)
				if n == 0 {
					continue
				}
				waits++
				o, told := toldBy(q.p, want, n)
				for _, one := range notWanted(want, n, o) {
					if got := impl.TrlTake(q.p, node, s, one.top, one.n, one.o); !sameValue(got, s) {
						t.Fatalf("%v: %s, behind %v of %v, %d, which is not waited for, %v is %v", q, atNode(node), one.o, one.top, one.n, s, got)
					}
				}
				if !told {
					continue
				}
				then := impl.TrlTake(q.p, node, s, want, n, o)
				if sameValue(then, s) || sameWait(then, s) {
					t.Fatalf("%v: %s %v of %v is not taken: %v", q, atNode(node), o, s, then)
				}
				next, m := impl.TrlWants(then)
				if m == n && slices.Equal(next, want) {
					// Another choice, further ahead, waits for the same: the one that was taken is gone.
					again++
					if len(then.Choices) >= len(s.Choices) || o.Status != impl.SlvNone {
						t.Fatalf("%v: %s %v of %v is waited for once more: %v", q, atNode(node), o, s, then)
					}
					continue
				}
				if got := impl.TrlTake(q.p, node, then, want, n, o); !sameValue(got, then) {
					t.Fatalf("%v: %s %v is taken twice: %v", q, atNode(node), o, got)
				}
			}
		}
	}
	if waits < 1000 {
		t.Errorf("only %d wait", waits)
	}
}

// checkWants: promise 36.
func checkWants(t *testing.T, p prog, node int, s trailState, want []cell, n int) {
	t.Helper()
	if s.Status != impl.SlvWaits {
		if len(want) != 0 || n != 0 {
			t.Errorf("%v waits for %v, %d", s, want, n)
		}
		return
	}
	if n < 1 || isNothing(impl.TrlNew(want)) || impl.PrgNode(p, want) == node || impl.PrgNode(p, want) < 0 {
		t.Errorf("%s %v waits for %v, %d", atNode(node), s, want, n)
	}
	if last := s.Choices[len(s.Choices)-1]; !slices.Equal(want, plainCanon(last.Call)) || n != last.Far {
		t.Errorf("%s %v waits for %v, %d", atNode(node), s, want, n)
	}
}

// TestWantsOfAnything: of what does not wait, or has no choice, none; whether it is ok is not asked.
func TestWantsOfAnything(t *testing.T) {
	if want, n := impl.TrlWants(waitTrail()); impl.TrmText(want) != "w(X0)" || n != 1 {
		t.Errorf("%v, %d", want, n)
	}
	for status := -1; status < 9; status++ {
		s := waitTrail()
		s.Status = status
		if want, n := impl.TrlWants(s); (n == 1) != (status == impl.SlvWaits) || (len(want) > 0) != (status == impl.SlvWaits) {
			t.Errorf("with status %d it waits for %v, %d", status, want, n)
		}
		if want, n := impl.TrlWants(trailState{Status: status, Top: s.Top}); len(want) != 0 || n != 0 {
			t.Errorf("without choices, with status %d, it waits for %v, %d", status, want, n)
		}
	}
	for _, x := range append(someTerms()[:200], wrongPlaces()...) {
		for _, far := range []int{math.MinInt, -1, 0, 1, impl.SlvFuel, impl.SlvFuel + 1} {
			s := trailState{Status: impl.SlvWaits, Choices: []trailChoice{{Call: read("no"), Far: 9}, {Call: x, Far: far}}}
			if want, n := impl.TrlWants(s); !slices.Equal(want, impl.TrmCanon(x)) || n != far {
				t.Errorf("%.200v, %d: it waits for %.200v, %d", x, far, want, n)
			}
		}
	}
}

// TestEachOutcomeIsTaken: from the first on, until there is none more, by hand.
func TestEachOutcomeIsTaken(t *testing.T) {
	p := program("at 1 k 1", "w(X0) if k(X0) and X0 < 3", "w(9)")
	top, k := read("w(X0)"), read("k(X0)")
	s := impl.TrlStep(p, 0, impl.TrlStep(p, 0, impl.TrlNew(top)))
	for n, one := range []struct {
		o    outcome
		outs string
	}{{answer("k(1)"), "w(1)"}, {answer("k(5)"), ""}, {answer("k(2)"), "w(2)"}, {answer("k(-7)"), "w(-7)"}, {outcome{Status: impl.SlvNone}, "w(9)"}} {
		if want, m := impl.TrlWants(s); m != n+1 || !slices.Equal(want, k) {
			t.Fatalf("it waits for %v, %d, and not for %d", want, m, n+1)
		}
		for _, m := range []int{n, n + 2} {
			if got := impl.TrlTake(p, 0, s, k, m, one.o); !sameValue(got, s) {
				t.Errorf("outcome %d is taken for %d", m, n+1)
			}
		}
		s = impl.TrlTake(p, 0, s, k, n+1, one.o)
		if got := impl.TrlTake(p, 0, s, k, n+1, one.o); !sameValue(got, s) {
			t.Errorf("outcome %d is taken twice", n+1)
		}
		for range 9 {
			if s.Status == impl.SlvGoes {
				s = impl.TrlStep(p, 0, s)
			}
		}
		if impl.TrmText(s.Out) != one.outs || (s.Status == impl.SlvAnswer) != (one.outs != "") {
			t.Fatalf("behind outcome %d it is %v", n+1, s)
		}
		if s.Status == impl.SlvAnswer {
			s = impl.TrlStep(p, 0, s)
		}
	}
	if !sameValue(s, trailState{Status: impl.SlvNone, Top: top}) {
		t.Errorf("at last it is %v", s)
	}
}

// waitFor is solving that waits for an outcome of a call, behind another choice, by bindings.
func waitFor(call string, far int, vars int, all []binding, ahead ...trailChoice) trailState {
	last := trailChoice{Goals: []pending{{Goal: callOf("z")}}, Mark: len(all), Vars: vars, Call: read(call), Far: far}
	return trailState{Status: impl.SlvWaits, Binds: all, Vars: vars, Choices: append(ahead, last), Top: read("z")}
}

// nearChoice has a clause that fits.
func nearChoice() trailChoice { return trailChoice{Vars: 2, Call: read("h(X0)"), Next: 5} }

// TestTakenAnswer: what is bound, its variables, and the goals behind it.
func TestTakenAnswer(t *testing.T) {
	p := farProg()
	for _, one := range []struct {
		call, answer string
		binds, more  []binding
	}{
		{"k(X2)", "k(1)", nil, binds("X2=1")},
		{"k(X2)", "k(X0)", nil, binds("X2=X20")},
		{"k(X2)", "k(f(X0,X1,X0))", nil, binds("X2=f(X20,X21,X20)")},
		{"e(X2,X3)", "e(X0,X0)", nil, binds("X2=X20", "X3=X20")},
		{"e(X3,X2)", "e(X0,X1)", nil, binds("X3=X20", "X2=X21")},
		{"e(X2,X2)", "e(g(X0),g(X0))", nil, binds("X2=g(X20)")},
		{"e(a,X2)", "e(a,b)", binds("X4=c"), binds("X2=b")},
		// An answer that says less than its question is bound as well.
		{"e(a,X2)", "e(X0,X1)", nil, binds("X20=a", "X2=X21")},
		{"k(a)", "k(a)", nil, nil},
		// What the call's variables are bound to by now counts.
		{"e(X2,X3)", "e(b,X0)", binds("X2=X4"), binds("X4=b", "X3=X20")},
		{"e(X2,X3)", "e(X0,c)", binds("X2=b"), binds("X20=b", "X3=c")},
	} {
		s := waitFor(one.call, 4, 20, one.binds, nearChoice())
		want, _ := impl.TrlWants(s)
		o := answer(one.answer)
		got := impl.TrlTake(p, 0, s, want, 4, o)
		expected := waitFor(one.call, 5, 20, one.binds, nearChoice())
		expected.Status, expected.Vars, expected.Binds = impl.SlvGoes, 20+len(o.Term), slices.Concat(one.binds, one.more)
		expected.Goals = []pending{{Goal: goal{Kind: impl.GoalExit, A: read(one.call)}}, {Goal: callOf("z")}}
		if !sameValue(got, expected) || !impl.TrlOk(p, 0, got) {
			t.Errorf("%s of %s: %v, want %v", one.answer, one.call, got, expected)
		}
	}
}

// TestAnswerThatDoesNotFit: by what is bound, and it waits for the next one, with nothing more bound.
func TestAnswerThatDoesNotFit(t *testing.T) {
	p := farProg()
	for _, one := range []struct {
		call, answer string
		binds        []binding
	}{
		{"k(X2)", "k(1)", binds("X2=2")},
		{"k(X2)", "k(g(X0))", binds("X2=X4", "X4=a")},
		{"e(X3,X2)", "e(b,1)", binds("X2=2")},
		{"e(X2,X3)", "e(X0,X0)", binds("X2=a", "X3=b")},
		{"e(X2,X3)", "e(X0,g(X0))", binds("X2=X3")},
	} {
		for _, far := range []int{1, 7, impl.SlvFuel - 1} {
			s := waitFor(one.call, far, 20, one.binds, nearChoice())
			want, n := impl.TrlWants(s)
			got := impl.TrlTake(p, 0, s, want, n, answer(one.answer))
			if expected := waitFor(one.call, far+1, 20, one.binds, nearChoice()); !sameValue(got, expected) || !impl.TrlOk(p, 0, got) {
				t.Errorf("%s of %s: %v, want %v", one.answer, one.call, got, expected)
			}
			// The one that did not fit is not waited for any more.
			if again := impl.TrlTake(p, 0, got, want, n, answer(one.answer)); !sameValue(again, got) {
				t.Errorf("%s of %s is taken twice: %v", one.answer, one.call, again)
			}
		}
	}
}

// TestAnswerThatIsTooBig: it ends, whatever choices there are.
func TestAnswerThatIsTooBig(t *testing.T) {
	p := farProg()
	big := trailState{Status: impl.SlvBig, Top: read("z")}
	// The question has its variable once more than the answer, which is great where it is.
	wide := slices.Concat(places(name("e", 2), variable(0)), wideVars(6))
	far := waitFor("k(X2)", 1, 20, nil, nearChoice())
	far.Choices[1].Call = wide
	for n, want := range map[int]int{1: impl.SlvGoes, 2: impl.SlvGoes, 3: impl.SlvBig, 20: impl.SlvBig} {
		o := outcome{Status: impl.SlvAnswer, Term: slices.Concat(places(name("e", 2)), chain(n), places(variable(0)))}
		if !impl.OutOk(wide, o) {
			t.Fatalf("no outcome: %v", o)
		}
		got := impl.TrlTake(p, 0, far, wide, 1, o)
		if got.Status != want || want == impl.SlvBig && !sameValue(got, big) || !sameValue(got, plainTake(p, 0, far, wide, 1, o)) {
			t.Errorf("with %d places: %v", n, got)
		}
	}
	// A variable of the call is bound to what is too great for it.
	s := waitFor("k(X2)", 1, 20, []binding{{Var: 2, Term: chain(impl.TrmMost)}}, nearChoice())
	if got := impl.TrlTake(p, 0, s, read("k(X0)"), 1, answer("k(X0)")); !sameValue(got, big) {
		t.Errorf("a call too big: %v", got)
	}
	s.Binds[0].Term = chain(impl.TrmMost - 1)
	if got := impl.TrlTake(p, 0, s, read("k(X0)"), 1, answer("k(X0)")); got.Status != impl.SlvGoes {
		t.Errorf("a call just not too big: %v", got)
	}
}

// TestTakenVarsAtTheEdges: how far on an answer's variables may be.
func TestTakenVarsAtTheEdges(t *testing.T) {
	p := farProg()
	for _, text := range []string{"k(1)", "k(X0)", "k(f(X0,X1,X2))"} {
		o := answer(text)
		edge := impl.TrmVars - len(o.Term)
		for vars, want := range map[int]int{edge - 1: impl.SlvGoes, edge: impl.SlvGoes, edge + 1: impl.SlvBig, impl.TrmVars: impl.SlvBig} {
			s := waitFor("k(X2)", 1, vars, nil, nearChoice())
			got := impl.TrlTake(p, 0, s, read("k(X0)"), 1, o)
			if got.Status != want || !sameValue(got, plainTake(p, 0, s, read("k(X0)"), 1, o)) {
				t.Errorf("%s with %d variables: %v", text, vars, got)
			}
			if want == impl.SlvGoes && (got.Vars != vars+len(o.Term) || !impl.TrlOk(p, 0, got)) {
				t.Errorf("%s with %d variables is then %v", text, vars, got)
			}
			if want == impl.SlvBig && !sameValue(got, trailState{Status: impl.SlvBig, Top: s.Top}) {
				t.Errorf("%s with %d variables ends with %v", text, vars, got)
			}
			// What is no answer needs no variables.
			if got := impl.TrlTake(p, 0, s, read("k(X0)"), 1, outcome{Status: impl.SlvNone}); got.Status != impl.SlvGoes || got.Vars != 2+impl.PrgFree {
				t.Errorf("none with %d variables: %v", vars, got)
			}
		}
	}
}

// TestFarAtTheEdges: the first outcome, the last that may be waited for, and what comes behind it.
func TestFarAtTheEdges(t *testing.T) {
	p := farProg()
	for far, want := range map[int]int{0: 0, 1: impl.SlvGoes, 2: impl.SlvGoes, impl.SlvFuel - 1: impl.SlvGoes, impl.SlvFuel: impl.SlvBig, impl.SlvFuel + 1: 0, -1: 0} {
		s := waitFor("k(X2)", far, 20, binds("X4=a"), nearChoice())
		got := impl.TrlTake(p, 0, s, read("k(X0)"), far, answer("k(3)"))
		if got.Status != want || impl.TrlOk(p, 0, s) != (want != 0) || !sameValue(got, plainTake(p, 0, s, read("k(X0)"), far, answer("k(3)"))) {
			t.Errorf("outcome %d: %v", far, got)
		}
		if want == impl.SlvGoes && got.Choices[1].Far != far+1 {
			t.Errorf("behind outcome %d it waits for %d", far, got.Choices[1].Far)
		}
		if want == impl.SlvBig && !sameValue(got, trailState{Status: impl.SlvBig, Top: s.Top}) {
			t.Errorf("behind outcome %d it is %v", far, got)
		}
		for _, o := range []outcome{{Status: impl.SlvNone}, {Status: impl.SlvBig}, {Status: impl.SlvWrong}} {
			got := impl.TrlTake(p, 0, s, read("k(X0)"), far, o)
			expected := trailState{}
			switch {
			case want == 0:
			case o.Status == impl.SlvNone:
				// It goes back to the choice ahead of it, whose next clause is the last but one.
				expected = trailState{
					Status: impl.SlvGoes, Goals: []pending{{Goal: goal{Kind: impl.GoalExit, A: read("h(X0)")}}}, Binds: binds("X0=c"), Vars: 2 + impl.PrgFree,
					Choices: []trailChoice{{Vars: 2, Call: read("h(X0)"), Next: 6}}, Top: s.Top,
				}
			default:
				expected = trailState{Status: o.Status, Top: s.Top}
			}
			if !sameValue(got, expected) {
				t.Errorf("outcome %d, %v: %v, want %v", far, o, got, expected)
			}
		}
	}
}

// TestNoneMoreGoesBack: to a choice that is far, and waits so again; to the one ahead; and without any it has none.
func TestNoneMoreGoesBack(t *testing.T) {
	p, none := farProg(), outcome{Status: impl.SlvNone}
	far := trailChoice{Mark: 1, Vars: 9, Call: read("e(X1,X2)"), Far: 3}
	all := binds("X4=a", "X5=X4")
	s := waitFor("k(X2)", 4, 20, all, far)
	want := trailState{Status: impl.SlvWaits, Binds: all[:1], Vars: 9, Choices: []trailChoice{far}, Top: s.Top}
	if got := impl.TrlTake(p, 0, s, read("k(X0)"), 4, none); !sameValue(got, want) {
		t.Errorf("back to a far one: %v, want %v", got, want)
	}
	s = waitFor("k(X2)", 4, 20, all)
	if got := impl.TrlTake(p, 0, s, read("k(X0)"), 4, none); !sameValue(got, trailState{Status: impl.SlvNone, Top: s.Top}) {
		t.Errorf("back to none: %v", got)
	}
	// The one ahead may wait for just the same outcome of the same question: that is then another choice's.
	same := trailChoice{Mark: 0, Vars: 9, Call: read("k(X1)"), Far: 4}
	s = waitFor("k(X2)", 4, 20, all, same)
	got := impl.TrlTake(p, 0, s, read("k(X0)"), 4, none)
	if want := (trailState{Status: impl.SlvWaits, Vars: 9, Choices: []trailChoice{same}, Top: s.Top}); !sameValue(got, want) {
		t.Errorf("back to the same: %v, want %v", got, want)
	}
	if got = impl.TrlTake(p, 0, got, read("k(X0)"), 4, none); !sameValue(got, trailState{Status: impl.SlvNone, Top: s.Top}) {
		t.Errorf("behind both: %v", got)
	}
}

// TestTakenBetween: what does not wait takes nothing.
func TestTakenBetween(t *testing.T) {
	t.Parallel()
	for _, q := range spreadPosed(100) {
		for _, node := range allNodes() {
			for _, s := range trailsOf(q, node, 15) {
				if s.Status == impl.SlvWaits {
					continue
				}
				few := slices.Clone(s.Choices[max(0, len(s.Choices)-1):])
				for _, c := range append(few, trailChoice{Call: q.top, Far: 1}, trailChoice{}) {
					for _, o := range []outcome{{Status: impl.SlvNone}, {Status: impl.SlvWrong}, {Status: impl.SlvAnswer, Term: plainCanon(c.Call)}, {}} {
						if got := impl.TrlTake(q.p, node, s, plainCanon(c.Call), c.Far, o); !sameValue(got, s) {
							t.Fatalf("%v: %s %v is taken: %v", q, atNode(node), o, got)
						}
					}
				}
			}
		}
	}
}
