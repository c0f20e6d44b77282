package tests

import (
	"reflect"
	"testing"

	"loop.example/catechist/impl"
)

// checkSolvingMemory calls each function of the chapter on a program, solving and a question that have spare room.
func checkSolvingMemory(t *testing.T, p prog, s state, top []cell) {
	t.Helper()
	given := []any{p, s, top}
	checkMemory(t, "SlvNew", given, func() []any { return []any{impl.SlvNew(top)} })
	checkMemory(t, "SlvOk", given, func() []any { impl.SlvOk(p, s); return nil })
	checkMemory(t, "SlvStep", given, func() []any { return []any{impl.SlvStep(p, s)} })
	for _, fuel := range []int{-1, 0, 2, 9, 30, impl.SlvFuel + 1} {
		checkMemory(t, "SlvRun", given, func() []any { return []any{impl.SlvRun(p, s, fuel)} })
	}
	checkMemory(t, "SlvOuts", given, func() []any { outs, _ := impl.SlvOuts(p, top, 9, 60); return []any{outs} })
}

// TestSolvingIsNewMemory: no answer shares memory with an argument, no two lists of one answer share any, and nothing is written into an argument.
func TestSolvingIsNewMemory(t *testing.T) {
	t.Parallel()
	for _, q := range somePosed(60) {
		mine, top := roomy(q.p), roomy(q.top)
		all := statesOf(q, 20)
		for k := 0; k < len(all); k += 3 {
			checkSolvingMemory(t, mine, roomy(all[k]), top)
		}
		checkSolvingMemory(t, mine, roomy(all[len(all)-1]), top)
	}
	for _, s := range []state{richState(), answerState()} {
		checkSolvingMemory(t, roomy(richProg()), roomy(s), roomy(s.Top))
	}
}

// TestWrongSolvingIsNewMemory: what is not ok is not written to either.
func TestWrongSolvingIsNewMemory(t *testing.T) {
	t.Parallel()
	for _, one := range harmful() {
		s := richState()
		one.turn(&s)
		checkSolvingMemory(t, roomy(richProg()), roomy(s), roomy(read("p(X1,X0)")))
	}
	for _, p := range wrongProgs()[:300] {
		if !isVast(p) {
			checkSolvingMemory(t, roomy(p), roomy(richState()), roomy(read("p(X0,X1)")))
		}
	}
}

func TestOutcomesAreNewMemory(t *testing.T) {
	for _, o := range []outcome{{Status: impl.SlvAnswer, Term: read("p(X0,g(a))")}, {Status: impl.SlvNone}, {Status: impl.SlvBig, Term: read("a")}, {Status: impl.SlvAnswer, Term: read("q")}, {}} {
		mine, top := roomy(o), roomy(read("p(X0,X1)"))
		checkMemory(t, "OutOk", []any{mine, top}, func() []any { impl.OutOk(top, mine); return nil })
		checkMemory(t, "OutText", []any{mine, top}, func() []any { impl.OutText(top, mine); return nil })
	}
}

// TestSolvingOfSharedLists: what lies in one memory when it is given does not in the answer.
func TestSolvingOfSharedLists(t *testing.T) {
	p := richProg()
	x := read("e(X0,g(X1))")
	goals := []pending{{Goal: goal{Kind: impl.GoalSame, A: x, B: x}}, {Goal: callGoalOf(x)}, {Goal: goal{Kind: impl.GoalPlus, A: x[1:2], B: x[3:4], C: x}}}
	all := []binding{{Var: 5, Term: x}, {Var: 6, Term: x}, {Var: 7, Term: x[2:4]}, {Var: 0, Term: x[3:4]}}
	s := state{
		Status: impl.SlvGoes, Goals: goals, Binds: all, Vars: 9, Top: x,
		Choices: []choice{{Goals: goals[:2], Binds: all[:2], Vars: 9, Call: x, Next: 0}, {Goals: goals, Binds: all[:2], Vars: 9, Call: x, Next: 2}, {Goals: goals, Binds: all, Vars: 9, Call: x, Next: 4}},
	}
	if !impl.SlvOk(p, s) {
		t.Fatalf("not ok: %v", s)
	}
	for _, fuel := range []int{0, 1, 2, 3, 4, 20} {
		checkMemory(t, "SlvRun", []any{p, s}, func() []any { return []any{impl.SlvRun(p, s, fuel)} })
		if got, want := impl.SlvRun(p, s, fuel), plainRun(p, s, fuel); !sameValue(got, want) {
			t.Errorf("behind %d steps it is %v, want %v", fuel, got, want)
		}
	}
}

// TestNothingOfSolvingIsKept: what is done to one answer is not seen in the next one.
func TestNothingOfSolvingIsKept(t *testing.T) {
	p, s := richProg(), richState()
	first := impl.SlvStep(p, s)
	was := noSpareOf(first)
	fillOdd(reflect.ValueOf(&first.Choices[0]).Elem())
	first.Choices[1].Call[0], first.Binds[0].Term[0], first.Goals[0].Goal.A[0], first.Top[0] = cell{}, cell{}, cell{}, cell{}
	if second := impl.SlvStep(p, s); !sameValue(second, was) || !sameValue(s, richState()) {
		t.Errorf("%v, and then %v", was, second)
	}
	outs, _ := impl.SlvOuts(p, read("e(X0,X1)"), 9, 60)
	text := showOuts(outs)
	outs[0].Term[0], outs[1] = cell{}, outcome{}
	if again, _ := impl.SlvOuts(p, read("e(X0,X1)"), 9, 60); showOuts(again) != text {
		t.Errorf("%s, and then %s", text, showOuts(again))
	}
}
