package tests

import (
	"math"
	"reflect"
	"slices"
	"testing"

	"loop.example/catechist/impl"
)

// TestBothBeginAlike: promise 34, of questions, and of what is none.
func TestBothBeginAlike(t *testing.T) {
	questions, others := 0, 0
	for _, x := range append(append(someTerms(), wrongPlaces()...), read("r"), read("p(X0)"), read("p(X1)"), read("p(X1,X0)"), chain(impl.TrmMost), manyVars()) {
		for _, top := range [][]cell{x, plainCanon(x)} {
			got := impl.TrlNew(top)
			if !sameValue(impl.TrlView(got), impl.SlvNew(top)) || !sameValue(got, plainTrailNew(top)) {
				t.Errorf("%.200v begins with %v", top, got)
			}
			if !plainQuestion(top) {
				others++
				if !isNothing(got) {
					t.Errorf("%.200v is no question, and begins with %v", top, got)
				}
				continue
			}
			questions++
			for _, node := range allNodes() {
				if !impl.TrlOk(richFarProg(), node, got) || !impl.TrlOk(prog{}, node, got) {
					t.Errorf("%v is not ok %s", top, atNode(node))
				}
			}
		}
	}
	if questions < 500 || others < 500 {
		t.Errorf("only %d are questions, %d are none", questions, others)
	}
}

// checkBothStep: promise 3, of one step of solving that is ok at node -1.
func checkBothStep(t *testing.T, p prog, s trailState) trailState {
	t.Helper()
	view := impl.TrlView(s)
	if !impl.SlvOk(p, view) {
		t.Fatalf("what is seen of %v is not ok", s)
	}
	next := impl.TrlStep(p, -1, s)
	if got, want := impl.TrlView(next), impl.SlvStep(p, view); !sameValue(got, want) {
		t.Fatalf("behind a step %v is seen as\n%v, want\n%v", s, got, want)
	}
	return next
}

// TestLettingGoIsToHaveKept: promise 3, step by step from the beginning.
func TestLettingGoIsToHaveKept(t *testing.T) {
	t.Parallel()
	steps, back := 0, 0
	for _, q := range append(spreadPosed(700), handPosed()...) {
		s := impl.TrlNew(q.top)
		for k := 0; k < 35 && !plainEnded(s.Status); k++ {
			next := checkBothStep(t, q.p, s)
			if len(next.Binds) < len(s.Binds) && next.Status == impl.SlvGoes {
				back++
			}
			s = next
			steps++
		}
		if plainEnded(s.Status) {
			checkBothStep(t, q.p, s)
		}
	}
	if steps < 6000 || back < 150 {
		t.Errorf("only %d steps are done, %d let go", steps, back)
	}
}

// TestLettingGoOfTurnedSolving: promise 3, of solving that did not begin with TrlNew.
func TestLettingGoOfTurnedSolving(t *testing.T) {
	for _, one := range append(harmless(), turn{"an answer", func(s *state) { *s = answerState() }}) {
		first := richState()
		one.turn(&first)
		s, _ := trailOf(first)
		if !impl.TrlOk(richProg(), -1, s) {
			t.Fatalf("%s: not ok: %v", one.what, s)
		}
		for range 9 {
			if s = checkBothStep(t, richProg(), s); !impl.TrlOk(richProg(), -1, s) {
				break
			}
		}
	}
	r, ok := steady(), 0
	for _, q := range somePosed(200) {
		all := trailsOf(q, -1, 25)
		for range 30 {
			s := noSpareOf(all[r.IntN(len(all))])
			turnSome(r, reflect.ValueOf(&s).Elem())
			if !impl.TrlOk(q.p, -1, s) {
				continue
			}
			ok++
			checkBothStep(t, q.p, s)
		}
	}
	if ok < 500 {
		t.Errorf("only %d are ok", ok)
	}
}

// TestByEitherWayOutcomesAreTheSame: promise 76.
func TestByEitherWayOutcomesAreTheSame(t *testing.T) {
	t.Parallel()
	several := 0
	for _, q := range append(spreadPosed(400), somePosed(200)...) {
		want, steps := impl.SlvOuts(q.p, q.top, 9, 60)
		var outs []outcome
		s, took := impl.TrlNew(q.top), 0
		for took < 60 && len(outs) < 9 && !plainEnded(s.Status) {
			s = impl.TrlStep(q.p, -1, s)
			took++
			if s.Status != impl.SlvGoes {
				outs = append(outs, outcome{Status: s.Status, Term: s.Out})
			}
		}
		if !sameOuts(outs, want) || took != steps {
			t.Errorf("%v: %s in %d, want %s in %d", q, showOuts(outs), took, showOuts(want), steps)
		}
		several += min(len(outs)/3, 1)
	}
	if several < 100 {
		t.Errorf("only %d have several outcomes", several)
	}
}

// TestWhoIsToldHasTheSame: promise 4. What one machine tells in 250 steps is told at each node, that is told what it waits for.
func TestWhoIsToldHasTheSame(t *testing.T) {
	t.Parallel()
	asked, several := 0, 0
	for _, q := range spreadPosed(1200) {
		want, _ := impl.SlvOuts(q.p, q.top, 9, 250)
		for _, node := range allNodes() {
			outs := outsAt(q, node, len(want), 2000)
			if !sameOuts(outs, want) {
				t.Fatalf("%v: %s it has %s, want %s", q, atNode(node), showOuts(outs), showOuts(want))
			}
			if slices.ContainsFunc(trailsOf(q, node, 20), func(s trailState) bool { return s.Status == impl.SlvWaits }) {
				asked++
				several += min(len(want)/3, 1)
			}
		}
	}
	if asked < 1500 || several < 300 {
		t.Errorf("only %d wait for something, %d of them have several outcomes", asked, several)
	}
}

// TestWhoIsToldByHand: outcomes of which it is known what they are.
func TestWhoIsToldByHand(t *testing.T) {
	for k, want := range map[string]string{
		"p(a,X0)": "p(a,b); p(a,c); p(a,c); none; ", "q(X0)": "q(b); none; ", "q(z)": "q(z); none; ", "m(X0)": "m(1); none; ", "m(7)": "m(7); none; ",
		"o(X0)": "o(1); o(2); o(1); o(2); none; ", "both(X0,X1)": "both(1,1); both(1,2); both(2,1); both(2,2); none; ", "both(X0,X0)": "both(1,1); both(2,2); none; ",
		"s(X0)": "s(1); wrong; ", "s(c)": "wrong; ", "t(X0)": "t(b); too big; ", "r(X0)": "none; ", "w(f(X0,X0))": "w(f(X0,X0)); w(f(X0,X0)); w(f(X0,X0)); w(f(X0,X0)); none; ",
	} {
		found := false
		for _, q := range handFar() {
			if impl.TrmText(q.top) != k {
				continue
			}
			found = true
			for _, node := range allNodes() {
				if got := showOuts(outsAt(q, node, 9, 500)); got != want {
					t.Errorf("%s %s: %s, want %s", k, atNode(node), got, want)
				}
			}
		}
		if !found {
			t.Errorf("%s is not asked", k)
		}
	}
}

// TestSolvingAtANodeStaysSolving: promise 26, of steps and of what is taken, at each node; and each answer is one of the question, as promise 29 has it.
func TestSolvingAtANodeStaysSolving(t *testing.T) {
	t.Parallel()
	for _, q := range spreadPosed(400) {
		for _, node := range allNodes() {
			answers := 0
			for k, s := range trailsOf(q, node, 50) {
				if !impl.TrlOk(q.p, node, s) || !slices.Equal(s.Top, q.top) {
					t.Fatalf("%v: %s, behind step %d, it is not ok: %v", q, atNode(node), k, s)
				}
				switch {
				case plainEnded(s.Status):
					if got := impl.TrlStep(q.p, node, s); !sameValue(got, s) || !sameValue(s, trailState{Status: s.Status, Top: q.top}) {
						t.Errorf("%v: what has ended as %v is %v", q, s, got)
					}
				case s.Status == impl.SlvWaits:
					if got := impl.TrlStep(q.p, node, s); !sameValue(got, s) {
						t.Errorf("%v: what waits as %v is %v", q, s, got)
					}
				case s.Status == impl.SlvAnswer:
					answers++
					if !impl.OutOk(q.top, outcome{Status: s.Status, Term: s.Out}) {
						t.Errorf("%v: %v is no answer of it", q, s.Out)
					}
				}
			}
			if outs, _ := impl.SlvOuts(q.p, q.top, answers, impl.SlvFuel/4); len(answersOf(outs)) != answers {
				t.Errorf("%v: %s it has %d answers, one machine %d", q, atNode(node), answers, len(answersOf(outs)))
			}
		}
	}
}

// TestTrailsAreAsPlainlyTold holds each step, and all that is taken, against the plain reading.
func TestTrailsAreAsPlainlyTold(t *testing.T) {
	t.Parallel()
	steps, takes := 0, 0
	for _, q := range spreadPosed(500) {
		for _, node := range allNodes() {
			for _, s := range trailsOf(q, node, 40) {
				if !plainTrailOk(q.p, node, s) {
					t.Fatalf("%v: %s it is not ok: %v", q, atNode(node), s)
				}
				if got, want := impl.TrlStep(q.p, node, s), plainTrailStep(q.p, node, s); !sameValue(got, want) {
					t.Fatalf("%v: %s, behind a step, %v is\n%v, want\n%v", q, atNode(node), s, got, want)
				}
				steps++
				want, n := impl.TrlWants(s)
				if o, told := toldBy(q.p, want, n); told {
					if got, want := impl.TrlTake(q.p, node, s, want, n, o), plainTake(q.p, node, s, want, n, o); !sameValue(got, want) {
						t.Fatalf("%v: %s, behind %v, %v is\n%v, want\n%v", q, atNode(node), o, s, got, want)
					}
					takes++
				}
			}
		}
	}
	if steps < 20000 || takes < 2000 {
		t.Errorf("only %d steps are done, %d outcomes taken", steps, takes)
	}
}

// TestWhatIsSeenIsAllOfIt: promise 37, of solving that is ok, and of such as is not.
func TestWhatIsSeenIsAllOfIt(t *testing.T) {
	r, seen, none := steady(), 0, 0
	for _, q := range append(spreadPosed(150), posed{richFarProg(), read("p(X0,X1)")}) {
		for k, s := range append(trailsOf(q, k3(len(q.top)), 25), richTrail(), waitTrail(), answerTrail(), trailState{}) {
			for range k % 3 {
				s = noSpareOf(s)
				turnSome(r, reflect.ValueOf(&s).Elem())
			}
			view := impl.TrlView(s)
			if !sameValue(view, plainView(s)) {
				t.Fatalf("%v is seen as %v", s, view)
			}
			if slices.ContainsFunc(s.Choices, func(c trailChoice) bool { return c.Mark < 0 || c.Mark > len(s.Binds) }) {
				none++
				if !isNothing(view) {
					t.Errorf("%v is seen as %v", s, view)
				}
				continue
			}
			seen++
			if view.Status != s.Status || !sameValue(view.Goals, s.Goals) || !sameBinds(view.Binds, s.Binds) || view.Vars != s.Vars || !slices.Equal(view.Top, s.Top) || !slices.Equal(view.Out, s.Out) || len(view.Choices) != len(s.Choices) {
				t.Errorf("%v is seen as %v", s, view)
			}
			for i, c := range view.Choices {
				if was := s.Choices[i]; len(c.Binds) != was.Mark || !sameBinds(c.Binds, s.Binds[:was.Mark]) || !sameValue(c.Goals, was.Goals) || c.Vars != was.Vars || c.Next != was.Next || !slices.Equal(c.Call, was.Call) {
					t.Errorf("of %v choice %d is seen as %v", s, i, c)
				}
			}
		}
	}
	if seen < 2000 || none < 20 {
		t.Errorf("only %d are seen, %d are not", seen, none)
	}
}

// k3 is a node, by a number.
func k3(n int) int { return n%(impl.PrgNodes+1) - 1 }

// TestMarksAtTheEdges: none, some, all bindings, one more, and below 0.
func TestMarksAtTheEdges(t *testing.T) {
	p := richProg()
	for mark, want := range map[int]bool{math.MinInt: false, -1: false, 0: true, 1: true, 4: true, 5: true, 6: false, math.MaxInt: false} {
		s, _ := trailOf(richState())
		s.Choices = []trailChoice{{Mark: mark, Vars: 12, Call: read("e(X8,X9)"), Next: 4}}
		s.Goals = nil
		view := impl.TrlView(s)
		if isNothing(view) == want || want && (len(view.Choices[0].Binds) != mark || !sameBinds(view.Choices[0].Binds, s.Binds[:mark])) {
			t.Errorf("with mark %d it is seen as %v", mark, view)
		}
		for _, node := range []int{-1, 0} {
			if got := impl.TrlOk(p, node, s); got != want {
				t.Errorf("with mark %d it is ok: %t", mark, got)
			}
			if got := impl.TrlStep(p, node, s); isNothing(got) == want {
				t.Errorf("with mark %d it is %v behind a step", mark, got)
			}
		}
		s.Status, s.Out = impl.SlvAnswer, answerState().Out
		if got := impl.TrlStep(p, -1, s); want && (got.Status != impl.SlvGoes || len(got.Binds) < mark || !sameBinds(got.Binds[:mark], s.Binds[:mark]) || !sameValue(got, plainTrailStep(p, -1, s))) {
			t.Errorf("back to mark %d it is %v", mark, got)
		}
	}
}

// TestMarksDoNotFall: each is at most the next one.
func TestMarksDoNotFall(t *testing.T) {
	p := richProg()
	for a := -1; a <= 6; a++ {
		for b := -1; b <= 6; b++ {
			s, _ := trailOf(richState())
			s.Goals = nil
			s.Choices = []trailChoice{{Mark: a, Vars: 12, Call: read("e(X0,X1)"), Next: 2}, {Mark: b, Vars: 12, Call: read("e(X0,X1)"), Next: 2}}
			want := 0 <= a && a <= b && b <= len(s.Binds)
			if got := impl.TrlOk(p, -1, s); got != want {
				t.Errorf("with marks %d and %d it is ok: %t", a, b, got)
			}
		}
	}
}

// TestNodesAtTheEdges: -1, each node, and those that are none.
func TestNodesAtTheEdges(t *testing.T) {
	p := program("at 1 b 0", "at 2 c 0", "a", "b", "c")
	for node, ok := range map[int]bool{math.MinInt: false, -2: false, -1: true, 0: true, 1: true, impl.PrgNodes - 1: true, impl.PrgNodes: false, math.MaxInt: false} {
		for home, question := range []string{"a", "b", "c"} {
			s := impl.TrlNew(read(question))
			if got := impl.TrlOk(p, node, s); got != ok {
				t.Errorf("%s %s is ok: %t", question, atNode(node), got)
			}
			got := impl.TrlStep(p, node, s)
			want := map[bool]int{true: impl.SlvGoes, false: impl.SlvWaits}[node == -1 || node == home]
			if !ok {
				want = 0
			}
			if got.Status != want || !ok && !isNothing(got) {
				t.Errorf("%s %s: %v", question, atNode(node), got)
			}
			for _, status := range []int{impl.SlvNone, impl.SlvBig, impl.SlvWrong} {
				ended := trailState{Status: status, Top: s.Top}
				if impl.TrlOk(p, node, ended) != ok || isNothing(impl.TrlStep(p, node, ended)) == ok || isNothing(impl.TrlTake(p, node, ended, s.Top, 1, outcome{Status: impl.SlvNone})) == ok {
					t.Errorf("%s, ended with %d, %s: %v", question, status, atNode(node), impl.TrlStep(p, node, ended))
				}
			}
			if want == impl.SlvWaits {
				for other, fine := range map[int]bool{-2: false, -1: false, home: false, node: true, impl.PrgNodes: false} {
					if impl.TrlOk(p, other, got) != fine || isNothing(impl.TrlTake(p, other, got, s.Top, 1, outcome{Status: impl.SlvNone})) == fine {
						t.Errorf("%s, that waits %s, is ok %s: %t", question, atNode(node), atNode(other), !fine)
					}
				}
			}
		}
	}
}

// TestTrailOfManySteps: what is bound and let go of many times is found as by one machine, in no long time.
func TestTrailOfManySteps(t *testing.T) {
	p := program("at 1 e 2", "e(a,b)", "e(b,a)", "p(X0,X1) if e(X0,X1)", "p(X0,X2) if e(X0,X1) and p(X1,X2)")
	q := posed{p, read("p(a,X0)")}
	want, _ := impl.SlvOuts(p, q.top, 25, impl.SlvFuel)
	for _, node := range allNodes() {
		if outs := outsAt(q, node, 25, 3000); len(outs) != 25 || !sameOuts(outs, want) {
			t.Errorf("%s: %s, want %s", atNode(node), showOuts(outs), showOuts(want))
		}
	}
}

// TestTrailGoalsByHand: each kind of goal, done, apart, too big and wrong, with a choice and without any, by both machines and at each node.
func TestTrailGoalsByHand(t *testing.T) {
	p := program("k(1)", "k(f(X0,X0))", "m(X0,X0)", "w(X0)")
	exit := func(a string) goal { return goal{Kind: impl.GoalExit, A: read(a)} }
	// X0 is a term of 39 places, X1 one of 40, X4 and X5 are numbers.
	s := append([]binding{{Var: 0, Term: chain(impl.TrmMost - 1)}, {Var: 1, Term: chain(impl.TrmMost)}}, binds("X4=5", "X5=X6", "X6=9999")...)
	seen := map[int]int{}
	for _, g := range []goal{
		callOf("w(X0)"), callOf("w(X1)"), callOf("no(X1)"), callOf("no(X0)"), callOf("m(X0,X2)"), callOf("m(X2,X3)"), callOf("k(a)"), callOf("k(X2)"), callOf("m(X4,X5)"),
		sameOf("X1", "X2"), sameOf("g(X0)", "X2"), sameOf("g(X1)", "X2"), sameOf("a", "g(X1)"), sameOf("f(X2,X2)", "f(X3,X0)"), sameOf("X4", "X6"), sameOf("X5", "9999"),
		lessOf("X4", "X5"), lessOf("X5", "X4"), lessOf("X4", "X4"), lessOf("X2", "1"), lessOf("1", "X0"), plusOf("X4", "1", "X2"), plusOf("X4", "1", "7"), plusOf("X5", "1", "X2"), plusOf("X4", "a", "X2"), plusOf("X4", "1", "g(X1)"),
		exit("w(X0)"), exit("w(X1)"), exit("no(X1)"), exit("w(X2)"), cutHere(),
	} {
		for _, back := range []bool{false, true} {
			first := goalState(g, s, back)
			first.Top = read("z")
			one, _ := trailOf(first)
			for _, node := range allNodes() {
				got := impl.TrlStep(p, node, one)
				seen[got.Status]++
				if want := plainTrailStep(p, node, one); !sameValue(got, want) {
					t.Errorf("%v %s: %v, want %v", g, atNode(node), got, want)
				}
			}
			checkBothStep(t, p, one)
		}
	}
	for _, status := range []int{impl.SlvGoes, impl.SlvNone, impl.SlvBig, impl.SlvWrong, impl.SlvWaits} {
		if seen[status] < 5 {
			t.Errorf("only %d are %d then", seen[status], status)
		}
	}
}
