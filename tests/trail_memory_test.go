package tests

import (
	"reflect"
	"testing"

	"loop.example/catechist/impl"
)

// checkTrailMemory calls each function of the chapter on a program, solving, a question and an outcome that have spare room.
func checkTrailMemory(t *testing.T, p prog, node int, s trailState, top []cell, n int, o outcome) {
	t.Helper()
	given := []any{p, s, top, o}
	checkMemory(t, "TrlNew", given, func() []any { return []any{impl.TrlNew(top)} })
	checkMemory(t, "TrlView", given, func() []any { return []any{impl.TrlView(s)} })
	checkMemory(t, "TrlOk", given, func() []any { impl.TrlOk(p, node, s); return nil })
	checkMemory(t, "TrlStep", given, func() []any { return []any{impl.TrlStep(p, node, s)} })
	checkMemory(t, "TrlWants", given, func() []any { want, _ := impl.TrlWants(s); return []any{want} })
	checkMemory(t, "OutOk", given, func() []any { impl.OutOk(top, o); return nil })
	checkMemory(t, "TrlTake", given, func() []any { return []any{impl.TrlTake(p, node, s, top, n, o)} })
}

// checkTakenMemory asks of solving what it waits for, and tells it outcomes of all kinds, and such as it does not wait for.
func checkTakenMemory(t *testing.T, p prog, node int, s trailState) {
	t.Helper()
	want, n := impl.TrlWants(s)
	for _, o := range []outcome{{Status: impl.SlvAnswer, Term: want}, {Status: impl.SlvNone}, {Status: impl.SlvBig}, {Status: impl.SlvWrong, Term: want}} {
		checkTrailMemory(t, roomy(p), node, roomy(s), roomy(want), n, roomy(o))
	}
	checkTrailMemory(t, roomy(p), node, roomy(s), roomy(want), n+1, roomy(outcome{Status: impl.SlvAnswer, Term: want}))
	checkTrailMemory(t, roomy(p), node, roomy(s), roomy(s.Top), 1, roomy(outcome{Status: impl.SlvNone}))
}

// TestTrailsAreNewMemory: no answer shares memory with an argument, no two lists of one answer share any, and nothing is written into an argument.
func TestTrailsAreNewMemory(t *testing.T) {
	t.Parallel()
	waits := 0
	for k, q := range spreadPosed(60) {
		node := allNodes()[k%len(allNodes())]
		for i, s := range trailsOf(q, node, 16) {
			if s.Status == impl.SlvWaits {
				waits++
				checkTakenMemory(t, q.p, node, s)
				continue
			}
			if i%4 == 0 || s.Status != impl.SlvGoes {
				checkTrailMemory(t, roomy(q.p), node, roomy(s), roomy(q.top), 1, roomy(outcome{Status: impl.SlvAnswer, Term: q.top}))
			}
		}
	}
	if waits < 50 {
		t.Errorf("only %d wait", waits)
	}
	for _, s := range []trailState{richTrail(), waitTrail(), answerTrail()} {
		checkTakenMemory(t, richFarProg(), 0, s)
		checkTakenMemory(t, richFarProg(), -1, s)
	}
	apart := waitFor("k(X2)", 3, 20, binds("X2=2", "X4=a"), nearChoice())
	checkTrailMemory(t, roomy(farProg()), 0, roomy(apart), roomy(read("k(X0)")), 3, roomy(answer("k(1)")))
}

// TestWrongTrailsAreNewMemory: what is not ok is not written to either; and what is seen of it is new.
func TestWrongTrailsAreNewMemory(t *testing.T) {
	t.Parallel()
	for _, one := range harmfulTrail() {
		s := richTrail()
		one.turn(&s)
		checkTakenMemory(t, richFarProg(), 0, s)
	}
	for _, one := range harmfulWaits() {
		s := waitTrail()
		one.turn(&s)
		checkTakenMemory(t, richFarProg(), 0, s)
	}
	r := steady()
	for range 400 {
		s := noSpareOf([]trailState{richTrail(), waitTrail(), answerTrail()}[r.IntN(3)])
		turnSome(r, reflect.ValueOf(&s).Elem())
		mine := roomy(s)
		checkMemory(t, "TrlView", []any{mine}, func() []any { return []any{impl.TrlView(mine)} })
		checkMemory(t, "TrlStep", []any{mine}, func() []any { return []any{impl.TrlStep(richFarProg(), 0, mine)} })
	}
	for _, p := range wrongProgs()[:100] {
		if !isVast(p) {
			checkTrailMemory(t, roomy(p), 0, roomy(waitTrail()), roomy(read("w(X0)")), 1, roomy(answer("w(b)")))
		}
	}
}

// TestTrailsOfSharedLists: what lies in one memory when it is given does not in the answer.
func TestTrailsOfSharedLists(t *testing.T) {
	p := program("at 1 v 2", "e(a,X0)", "e(X0,X0)", "v(a,b)")
	x := read("e(X0,g(X1))")
	far := read("v(X0,g(X1))")
	goals := []pending{{Goal: goal{Kind: impl.GoalSame, A: x, B: x}}, {Goal: callGoalOf(x)}, {Goal: goal{Kind: impl.GoalExit, A: far}}}
	all := []binding{{Var: 5, Term: x}, {Var: 6, Term: x}, {Var: 7, Term: x[2:4]}}
	s := trailState{
		Status: impl.SlvWaits, Binds: all, Vars: 9, Top: x,
		Choices: []trailChoice{{Goals: goals[:2], Mark: 2, Vars: 9, Call: x, Next: 0}, {Goals: goals, Mark: 3, Vars: 9, Call: far, Far: 2}, {Goals: goals, Mark: 3, Vars: 9, Call: far, Far: 2}},
	}
	if !impl.TrlOk(p, 0, s) {
		t.Fatalf("not ok: %v", s)
	}
	o := outcome{Status: impl.SlvAnswer, Term: far}
	given := []any{p, s, far, o}
	checkMemory(t, "TrlView", given, func() []any { return []any{impl.TrlView(s)} })
	checkMemory(t, "TrlStep", given, func() []any { return []any{impl.TrlStep(p, 0, s)} })
	checkMemory(t, "TrlTake", given, func() []any { return []any{impl.TrlTake(p, 0, s, far, 2, o)} })
	checkMemory(t, "TrlWants", given, func() []any { want, _ := impl.TrlWants(s); return []any{want} })
	for got, k := impl.TrlTake(p, 0, s, far, 2, o), 0; k < 6; k++ {
		next := impl.TrlStep(p, 0, got)
		if want := plainTrailStep(p, 0, got); !sameValue(next, want) {
			t.Fatalf("behind %d steps it is %v, want %v", k, next, want)
		}
		got = next
	}
}

// TestNothingOfTrailsIsKept: what is done to one answer is not seen in the next one.
func TestNothingOfTrailsIsKept(t *testing.T) {
	p, s := richFarProg(), waitTrail()
	want := read("w(X0)")
	first := impl.TrlTake(p, 0, s, want, 1, answer("w(b)"))
	was := noSpareOf(first)
	fillOdd(reflect.ValueOf(&first.Choices[0]).Elem())
	first.Choices[1].Call[0], first.Binds[0].Term[0], first.Goals[0].Goal.A[0], first.Top[0] = cell{}, cell{}, cell{}, cell{}
	if second := impl.TrlTake(p, 0, s, want, 1, answer("w(b)")); !sameValue(second, was) || !sameValue(s, waitTrail()) {
		t.Errorf("%v, and then %v", was, second)
	}
	view := impl.TrlView(s)
	view.Choices[2].Binds[0].Term[0], view.Binds[1].Term[0], view.Choices[0].Call[0] = cell{}, cell{}, cell{}
	if again := impl.TrlView(s); !sameValue(again, plainView(waitTrail())) {
		t.Errorf("it is seen as %v", again)
	}
	wanted, _ := impl.TrlWants(s)
	wanted[0] = cell{}
	if again, _ := impl.TrlWants(s); impl.TrmText(again) != "w(X0)" {
		t.Errorf("it waits for %v", again)
	}
}
