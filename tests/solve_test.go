package tests

import (
	"math"
	"slices"
	"testing"

	"loop.example/catechist/impl"
)

// TestSolvingBeginsWithItsQuestion: promise 28.
func TestSolvingBeginsWithItsQuestion(t *testing.T) {
	progs := append(somePrograms()[:100], handPosed()[0].p)
	questions := 0
	for k, x := range append(someTerms(), read("r"), read("p(X0)"), read("p(X0,X1,X0)"), chain(impl.TrmMost), manyVars()) {
		for _, top := range [][]cell{x, plainCanon(x)} {
			got := impl.SlvNew(top)
			if !sameValue(got, plainNew(top)) {
				t.Errorf("%v begins with %v", top, got)
			}
			if !plainQuestion(top) {
				if !isNothing(got) {
					t.Errorf("%v is no question, and begins with %v", top, got)
				}
				continue
			}
			questions++
			if got.Status != impl.SlvGoes || len(got.Binds) != 0 || len(got.Choices) != 0 || len(got.Out) != 0 || !slices.Equal(got.Top, top) {
				t.Errorf("%v begins with %v", top, got)
			}
			if p := progs[k%len(progs)]; !impl.SlvOk(p, got) || !impl.SlvOk(prog{}, got) {
				t.Errorf("%v is not ok at its beginning", top)
			}
		}
	}
	if questions < 500 {
		t.Errorf("only %d are questions", questions)
	}
}

// manyVars is a question with as many variables as there can be.
func manyVars() []cell {
	t := places(name("f", 1))
	for len(t) < impl.TrmMost-3 {
		t = append(t, name("g", 3), variable(len(t)), variable(len(t)+1))
	}
	return plainCanon(append(t, variable(impl.TrmVars)))
}

func TestNoQuestionBeginsNothing(t *testing.T) {
	if n := len(plainFree(manyVars())); n < 20 || impl.SlvNew(manyVars()).Vars != n {
		t.Errorf("%d variables, and the next one is %d", n, impl.SlvNew(manyVars()).Vars)
	}
	all := append(wrongPlaces(), read("X0"), read("X1"), read("0"), read("7"), read("p(X1)"), read("p(X1,X0)"), read("p(X0,X2)"), read("p(f(X0,X2),X1)"), read("p(X99999)"))
	for _, x := range all {
		if got := impl.SlvNew(x); !isNothing(got) {
			t.Errorf("%.200v begins with %v", x, got)
		}
		if outs, steps := impl.SlvOuts(handPosed()[0].p, x, 5, 100); len(outs) != 0 || steps != 0 {
			t.Errorf("%.200v has the outcomes %v in %d steps", x, outs, steps)
		}
	}
}

// TestSolvingIsAsPlainlyTold holds each step against the plain reading.
func TestSolvingIsAsPlainlyTold(t *testing.T) {
	t.Parallel()
	states := 0
	for _, q := range somePosed(1500) {
		s := impl.SlvNew(q.top)
		for k := 0; k < 40 && !plainEnded(s.Status); k++ {
			next := impl.SlvStep(q.p, s)
			if want := plainStep(q.p, s); !sameValue(next, want) {
				t.Fatalf("%v: behind step %d it is\n%v, want\n%v", q, k, next, want)
			}
			s = next
			states++
		}
	}
	if states < 10000 {
		t.Errorf("only %d steps are done", states)
	}
}

func TestOutcomesAreAsPlainlyTold(t *testing.T) {
	for k, q := range somePosed(1000) {
		most, fuel := k%7, 1+k%60
		outs, steps := impl.SlvOuts(q.p, q.top, most, fuel)
		want, wantSteps := plainOuts(q.p, q.top, most, fuel)
		if !sameOuts(outs, want) || steps != wantSteps {
			t.Errorf("%v, %d by %d: %s in %d, want %s in %d", q, most, fuel, showOuts(outs), steps, showOuts(want), wantSteps)
		}
	}
}

// TestSolvingStaysSolving: promise 26.
func TestSolvingStaysSolving(t *testing.T) {
	for _, q := range somePosed(600) {
		for _, s := range statesOf(q, 40) {
			if !impl.SlvOk(q.p, s) || !slices.Equal(s.Top, q.top) {
				t.Fatalf("%v: not ok: %v", q, s)
			}
			if s.Status == impl.SlvAnswer && !impl.OutOk(q.top, outcome{Status: s.Status, Term: s.Out}) {
				t.Errorf("%v: %v is no answer of it", q, s.Out)
			}
			if plainEnded(s.Status) && !sameValue(s, state{Status: s.Status, Top: q.top}) {
				t.Errorf("%v: it has ended, and has more than the question: %v", q, s)
			}
		}
	}
}

// TestWhatHasEndedStays: a step, and many, leave it as it is.
func TestWhatHasEndedStays(t *testing.T) {
	for _, status := range []int{impl.SlvNone, impl.SlvBig, impl.SlvWrong} {
		for _, q := range somePosed(20) {
			s := state{Status: status, Top: q.top}
			if !impl.SlvOk(q.p, s) {
				t.Errorf("%v is not ok", s)
			}
			for _, fuel := range []int{-1, 0, 1, 2, impl.SlvFuel} {
				if got := impl.SlvRun(q.p, s, fuel); !sameValue(got, s) {
					t.Errorf("behind %d steps %v is %v", fuel, s, got)
				}
			}
			if got := impl.SlvStep(q.p, s); !sameValue(got, s) {
				t.Errorf("behind a step %v is %v", s, got)
			}
		}
	}
}

// TestManyStepsAreSomeAndThenTheOthers: promise 27. Also where an answer is between: it stays, by all steps as by some.
func TestManyStepsAreSomeAndThenTheOthers(t *testing.T) {
	between, whole := 0, 0
	for k, q := range somePosed(400) {
		for i, s := range statesOf(q, 12) {
			first, second := (k+i)%9, (k*3+i*5)%11
			some := impl.SlvRun(q.p, s, first)
			if some.Status == impl.SlvAnswer {
				between++
			} else {
				whole++
			}
			got, want := impl.SlvRun(q.p, some, second), impl.SlvRun(q.p, s, first+second)
			if !sameValue(got, want) {
				t.Errorf("%v: %d steps and %d are %v, want %v", q, first, second, got, want)
			}
		}
	}
	if between < 300 || whole < 1500 {
		t.Errorf("only %d have an answer between, %d have not", between, whole)
	}
}

// TestOneOfManyStepsIsAStep: promise 27, of what goes on, and of what has ended.
func TestOneOfManyStepsIsAStep(t *testing.T) {
	for _, q := range somePosed(400) {
		for _, s := range statesOf(q, 12) {
			if s.Status == impl.SlvAnswer {
				continue
			}
			if got, want := impl.SlvRun(q.p, s, 1), impl.SlvStep(q.p, s); !sameValue(got, want) {
				t.Errorf("%v: of one step it is %v, want %v", q, got, want)
			}
		}
	}
}

// checkAnswerStays: by so many steps none is done of an answer, but SlvStep goes back from it. It stops at the first that is otherwise: what is gone on with may be vast.
func checkAnswerStays(t *testing.T, p prog, s state, fuels ...int) {
	t.Helper()
	for _, fuel := range fuels {
		if got := impl.SlvRun(p, s, fuel); !sameValue(got, s) {
			t.Fatalf("by %d steps the answer %v is %v", fuel, s, got)
		}
	}
	if got := impl.SlvStep(p, s); got.Status == impl.SlvAnswer || !sameValue(got, plainStep(p, s)) {
		t.Fatalf("behind a step the answer %v is %v", s, got)
	}
}

// TestRunLeavesAnAnswer: with choices that are left, and without any.
func TestRunLeavesAnAnswer(t *testing.T) {
	more, last := 0, 0
	for _, q := range somePosed(400) {
		for _, s := range statesOf(q, 30) {
			if s.Status != impl.SlvAnswer {
				continue
			}
			checkAnswerStays(t, q.p, s, -1, 0, 1, 2, 5, 20)
			if len(s.Choices) > 0 {
				more++
			} else {
				last++
			}
		}
	}
	if more < 100 || last < 100 {
		t.Errorf("only %d answers have choices, %d have none", more, last)
	}
}

// TestRunLeavesAnAnswerAtTheEdges: by as few and as many steps as can be said; by more than may be done at once there is nothing of it.
func TestRunLeavesAnAnswerAtTheEdges(t *testing.T) {
	p, s := richProg(), answerState()
	checkAnswerStays(t, p, s, math.MinInt, -1, 0, 1, 2, 100, impl.SlvFuel-1, impl.SlvFuel)
	for _, fuel := range []int{impl.SlvFuel + 1, math.MaxInt} {
		if got := impl.SlvRun(p, s, fuel); !isNothing(got) {
			t.Errorf("by %d steps the answer is %v", fuel, got)
		}
	}
}

// TestRunStopsAtWhatComes: of many steps no more are done than lead to an answer, or to an end.
func TestRunStopsAtWhatComes(t *testing.T) {
	p := program("e(a)", "e(b)", "u if 1 < a")
	s := impl.SlvRun(p, impl.SlvNew(read("e(X0)")), 100)
	if s.Status != impl.SlvAnswer || impl.TrmText(s.Out) != "e(a)" || len(s.Choices) != 1 {
		t.Fatalf("%v", s)
	}
	checkAnswerStays(t, p, s, 0, 1, 2, 5, 100, impl.SlvFuel)
	s = impl.SlvRun(p, impl.SlvStep(p, s), 100)
	if s.Status != impl.SlvAnswer || impl.TrmText(s.Out) != "e(b)" || len(s.Choices) != 0 {
		t.Fatalf("%v", s)
	}
	checkAnswerStays(t, p, s, 0, 1, 2, 5, 100, impl.SlvFuel)
	if got := impl.SlvRun(p, impl.SlvStep(p, s), 100); !sameValue(got, state{Status: impl.SlvNone, Top: read("e(X0)")}) {
		t.Errorf("at last it is %v", got)
	}
	if got := impl.SlvRun(p, impl.SlvNew(read("u")), 100); !sameValue(got, state{Status: impl.SlvWrong, Top: read("u")}) {
		t.Errorf("u is %v", got)
	}
}

// TestFuelAtTheEdges: none, one, all that may be, and one more.
func TestFuelAtTheEdges(t *testing.T) {
	p := program("n(X0) if X0 < 9999 and X0 + 1 = X1 and n(X1)")
	top := read("n(0)")
	s := impl.SlvNew(top)
	for _, fuel := range []int{math.MinInt, -1, 0} {
		if got := impl.SlvRun(p, s, fuel); !sameValue(got, s) {
			t.Errorf("behind %d steps it is %v", fuel, got)
		}
		if outs, steps := impl.SlvOuts(p, top, 5, fuel); len(outs) != 0 || steps != 0 {
			t.Errorf("by %d steps: %v in %d", fuel, outs, steps)
		}
	}
	if got := impl.SlvRun(p, s, 1); len(got.Goals) != 4 || got.Vars != impl.PrgFree {
		t.Errorf("behind one step it is %v", got)
	}
	for _, fuel := range []int{impl.SlvFuel + 1, math.MaxInt} {
		if got := impl.SlvRun(p, s, fuel); !isNothing(got) {
			t.Errorf("behind %d steps it is %v", fuel, got)
		}
		if got := impl.SlvRun(p, state{Status: impl.SlvNone, Top: top}, fuel); !isNothing(got) {
			t.Errorf("behind %d steps what has ended is %v", fuel, got)
		}
		if outs, steps := impl.SlvOuts(p, top, 5, fuel); len(outs) != 0 || steps != 0 {
			t.Errorf("by %d steps: %v in %d", fuel, outs, steps)
		}
	}
	for _, fuel := range []int{1, 2, 999, impl.SlvFuel - 1, impl.SlvFuel} {
		if outs, steps := impl.SlvOuts(p, top, 5, fuel); len(outs) != 0 || steps != fuel {
			t.Errorf("by %d steps: %v in %d", fuel, outs, steps)
		}
	}
	full := impl.SlvRun(p, s, impl.SlvFuel)
	if full.Status != impl.SlvGoes || full.Vars != impl.SlvFuel/3*impl.PrgFree || len(full.Choices) != 0 {
		t.Errorf("behind all steps: %d, %d variables, %d choices", full.Status, full.Vars, len(full.Choices))
	}
	if impl.SlvOk(p, full) != true || impl.SlvStep(p, full).Status != impl.SlvGoes {
		t.Errorf("behind all steps it is not ok")
	}
}

// TestVarsAtTheEdges: how far on a clause's variables may be.
func TestVarsAtTheEdges(t *testing.T) {
	p := program("e(X7) if X7 = X6", "e(b)", "w(X0) if e(X0)")
	for vars, want := range map[int]int{
		impl.TrmVars - impl.PrgFree - 1: impl.SlvGoes,
		impl.TrmVars - impl.PrgFree:     impl.SlvGoes,
		impl.TrmVars - impl.PrgFree + 1: impl.SlvBig,
		impl.TrmVars:                    impl.SlvBig,
	} {
		s := state{Status: impl.SlvGoes, Goals: []pending{{Goal: callOf("e(X0)")}}, Vars: vars, Top: read("w(X0)")}
		got := impl.SlvStep(p, s)
		if got.Status != want || !sameValue(got, plainStep(p, s)) {
			t.Errorf("with %d variables: %v", vars, got)
		}
		if want == impl.SlvGoes && (got.Vars != vars+impl.PrgFree || !impl.SlvOk(p, got)) {
			t.Errorf("with %d variables then: %v", vars, got)
		}
		if want == impl.SlvBig && !sameValue(got, state{Status: want, Top: s.Top}) {
			t.Errorf("with %d variables it ends with %v", vars, got)
		}
		// A call without clauses goes back whatever the next variable is; and so does what is tried from a choice.
		s.Goals[0].Goal = callOf("no(X0)")
		if got := impl.SlvStep(p, s); got.Status != impl.SlvNone {
			t.Errorf("no clause, with %d variables: %v", vars, got)
		}
		s.Choices = []choice{{Vars: vars, Call: read("e(a)"), Next: 0}}
		if got := impl.SlvStep(p, s); got.Status != want || !sameValue(got, plainStep(p, s)) {
			t.Errorf("from a choice, with %d variables: %v", vars, got)
		}
	}
	for vars, want := range map[int]bool{math.MinInt: false, -1: false, 0: false, 1: true, impl.TrmVars: true, impl.TrmVars + 1: false, math.MaxInt: false} {
		s := impl.SlvNew(read("w(X0)"))
		s.Vars = vars
		if got := impl.SlvOk(p, s); got != want {
			t.Errorf("with %d variables it is ok: %t", vars, got)
		}
	}
}

// TestProgramThatIsNotOk: of it nothing is done.
func TestProgramThatIsNotOk(t *testing.T) {
	for _, p := range wrongProgs() {
		top := read("e(a,X0)")
		s := impl.SlvNew(top)
		if impl.SlvOk(p, s) || impl.SlvOk(p, state{Status: impl.SlvNone, Top: top}) {
			t.Errorf("ok by %.300v", p)
		}
		if got := impl.SlvStep(p, s); !isNothing(got) {
			t.Errorf("by %.300v: %v", p, got)
		}
		for _, fuel := range []int{-1, 0, 1, 100} {
			if got := impl.SlvRun(p, s, fuel); !isNothing(got) {
				t.Errorf("by %.300v: %v", p, got)
			}
		}
		if outs, steps := impl.SlvOuts(p, top, 5, 100); len(outs) != 0 || steps != 0 {
			t.Errorf("by %.300v: %v in %d", p, outs, steps)
		}
	}
}

// TestGreatestPrograms: as many clauses, goals and places as there may be.
func TestGreatestPrograms(t *testing.T) {
	full := program("w(X0) if X0 = 1 and ! and e(X0,X7) and X7 < 3", "w(X0) if e(X0,X0) and e(X0,X0) and e(X0,X0) and e(X0,X0)",
		"e(1,2)", "e(1,3)", "e(4,4)", "e(5,5)", "f(a)", "f(b)", "f(c)", "f(d)", "f(e)", "f(f)")
	for question, want := range map[string]string{
		"w(X0)": "w(1); none; ", "w(1)": "w(1); none; ", "w(4)": "w(4); none; ", "w(6)": "none; ",
		"f(X0)": "f(a); f(b); f(c); f(d); f(e); f(f); none; ", "f(f)": "f(f); none; ",
	} {
		if got, _ := written(full, question, 9, 100); got != want {
			t.Errorf("%s: %s, want %s", question, got, want)
		}
	}
	if got, steps := written(prog{}, "a", 9, 100); got != "none; " || steps != 1 {
		t.Errorf("of no clauses: %s in %d", got, steps)
	}
	// A clause without goals takes a step for the call, one for its end, and one for the answer.
	if got, steps := written(program("a"), "a", 1, 100); got != "a; " || steps != 3 {
		t.Errorf("of one fact: %s in %d", got, steps)
	}
	if got, steps := written(program("a if ! and ! and ! and !"), "a", 1, 100); got != "a; " || steps != 7 {
		t.Errorf("of four cuts: %s in %d", got, steps)
	}
}
