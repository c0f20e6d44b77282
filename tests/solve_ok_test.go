package tests

import (
	"math"
	"math/rand/v2"
	"reflect"
	"slices"
	"testing"

	"loop.example/catechist/impl"
)

// richProg has clauses of a few names, to go with richState.
func richProg() prog {
	return program("e(a,X0)", "q(b)", "e(b,c)", "p(X0,X1) if e(X0,X2) and ! and X2 = X1", "e(X0,X0)")
}

// richState is solving that is ok by richProg and has something of all: each kind of goal, cuts, bindings, and choices.
func richState() state {
	first := binds("X0=X3", "X1=f(X4,a)")
	second := append(copyBinds(first), binds("X3=g(X5)")...)
	all := append(copyBinds(second), binds("X4=7", "X10=X11")...)
	return state{
		Status: impl.SlvGoes,
		Goals: []pending{
			{Goal: callOf("e(X11,X2)")}, {Goal: sameOf("X2", "h(X1,X0,X11)")}, {Goal: cutHere(), Cut: 2}, {Goal: lessOf("X4", "9999")},
			{Goal: plusOf("X4", "1", "X8")}, {Goal: cutHere(), Cut: 0}, {Goal: goal{Kind: impl.GoalExit, A: read("p(X0,X1)")}},
		},
		Binds: all,
		Vars:  12,
		Choices: []choice{
			{Goals: []pending{{Goal: goal{Kind: impl.GoalExit, A: read("p(X0,X1)")}}}, Binds: nil, Vars: 2, Call: read("e(X0,X1)"), Next: 2},
			{Goals: []pending{{Goal: cutHere(), Cut: 1}, {Goal: sameOf("X4", "X2")}}, Binds: first, Vars: 5, Call: read("e(X4,X3)"), Next: 0},
			{Goals: nil, Binds: second, Vars: 7, Call: read("e(X6,X6)"), Next: 4},
		},
		Top: read("p(X0,X1)"),
	}
}

// answerState is solving that is ok by richProg and has an answer.
func answerState() state {
	s := richState()
	s.Status, s.Goals, s.Out = impl.SlvAnswer, nil, read("p(g(X0),f(7,a))")
	return s
}

type turn struct {
	what string
	turn func(*state)
}

// harmless turns richState to what is ok as well.
func harmless() []turn {
	return []turn{
		{"as it is", func(s *state) {}},
		{"no goals", func(s *state) { s.Goals = nil }},
		{"more variables", func(s *state) { s.Vars = impl.TrmVars }},
		{"a cut that leaves all", func(s *state) { s.Goals[2].Cut = 3 }},
		{"cuts that rise", func(s *state) { s.Goals[5].Cut = 3 }},
		{"a choice's cut that leaves none", func(s *state) { s.Choices[1].Goals[0].Cut = 0 }},
		{"a choice's next clause ahead", func(s *state) { s.Choices[2].Next = 0 }},
		{"a choice's next clause behind", func(s *state) { s.Choices[0].Next = 4 }},
		{"a choice with as many variables as the next one", func(s *state) { s.Choices[1].Vars = 7 }},
		{"a choice with all variables", func(s *state) { s.Choices[2].Vars = 12 }},
		{"a choice with all bindings", func(s *state) { s.Choices[2].Binds, s.Choices[2].Vars = copyBinds(s.Binds), 12 }},
		{"a choice with no bindings", func(s *state) { s.Choices[1].Binds = nil }},
		{"the first choice gone", func(s *state) { s.Choices = s.Choices[1:]; s.Choices[0].Goals[0].Cut = 0 }},
		{"a term as great as may be", func(s *state) { s.Goals[1].Goal.B = chain(impl.TrmMost) }},
		{"a call as great as may be", func(s *state) { s.Goals[0].Goal.A = chain(impl.TrmMost) }},
		{"bound to what is as great as may be", func(s *state) { s.Binds[4].Term = chain(impl.TrmMost) }},
		{"the last variable", func(s *state) { s.Goals[1].Goal.A = read("X11") }},
		{"a question without variables", func(s *state) { s.Top = read("z") }},
		{"a question of another name", func(s *state) { s.Top = read("no(X0)") }},
		{"a question with more variables than a choice has", func(s *state) { s.Top = read("h(X0,X1,X2)") }},
	}
}

// harmful turns richState to what is not ok, each for another cause.
func harmful() []turn {
	all := []turn{
		{"status 0", func(s *state) { s.Status = 0 }},
		{"status below 0", func(s *state) { s.Status = -1 }},
		{"it waits", func(s *state) { s.Status = impl.SlvWaits }},
		{"status 7", func(s *state) { s.Status = 7 }},
		{"ended, with all", func(s *state) { s.Status = impl.SlvNone }},
		{"an answer with goals", func(s *state) { s.Status, s.Out = impl.SlvAnswer, read("p(g(X0),f(7,a))") }},
		{"an answer without a term", func(s *state) { s.Status, s.Goals = impl.SlvAnswer, nil }},
		{"a term of what goes on", func(s *state) { s.Out = read("p(g(X0),f(7,a))") }},
		{"no question", func(s *state) { s.Top = nil }},
		{"a question that is a variable", func(s *state) { s.Top = read("X0") }},
		{"a question that is a number", func(s *state) { s.Top = read("1") }},
		{"a question numbered otherwise", func(s *state) { s.Top = read("p(X1,X0)") }},
		{"a question that is no term", func(s *state) { s.Top = s.Top[:2] }},
		{"a question with more variables", func(s *state) { s.Top = manyVars() }},
		{"one variable less", func(s *state) { s.Vars = 11 }},
		{"no variables", func(s *state) { s.Vars = 0 }},
		{"variables below 0", func(s *state) { s.Vars = -1 }},
		{"one variable too many", func(s *state) { s.Vars = impl.TrmVars + 1 }},
		{"a variable bound twice", func(s *state) { s.Binds = append(s.Binds, binds("X4=7")...) }},
		{"a variable that leads to itself", func(s *state) { s.Binds = append(s.Binds, binds("X11=f(X10,a)")...) }},
		{"bound to no term", func(s *state) { s.Binds[4].Term = nil }},
		{"bound to what is too great", func(s *state) { s.Binds[4].Term = chain(impl.TrmMost + 1) }},
		{"a binding of a variable that is none", func(s *state) { s.Binds = append(s.Binds, binding{Var: -1, Term: read("a")}) }},
		{"a binding of a variable beyond", func(s *state) { s.Binds = append(s.Binds, binds("X12=a")...) }},
		{"a binding to a variable beyond", func(s *state) { s.Binds = append(s.Binds, binds("X9=g(X12)")...) }},
		{"a choice's bindings gone from the next one", func(s *state) { s.Binds = s.Binds[1:] }},
		{"a choice's bindings in another order", func(s *state) { s.Binds[0], s.Binds[1] = s.Binds[1], s.Binds[0] }},
		{"bindings that say another thing than a choice's", func(s *state) { s.Binds[1].Term = read("f(X4,b)") }},
		{"bindings of another variable than a choice's", func(s *state) { s.Binds[2].Var = 6 }},
		{"a choice with more bindings than the next one", func(s *state) { s.Choices[0].Binds = binds("X0=a", "X1=b") }},
		{"a choice with more bindings than there are", func(s *state) { s.Choices[2].Binds = append(copyBinds(s.Binds), binds("X5=a")...) }},
		{"a choice with the next one's bindings", func(s *state) { s.Choices[1].Binds = copyBinds(s.Binds) }},
		{"a choice with more of the same bindings than the next one", func(s *state) {
			s.Choices[1].Binds, s.Choices[1].Vars, s.Choices[2].Binds = copyBinds(s.Binds[:3]), 6, copyBinds(s.Binds[:2])
		}},
		{"a choice whose bindings are not ok", func(s *state) { s.Choices[2].Binds = binds("X0=X0") }},
		{"a choice with more variables than the next one", func(s *state) { s.Choices[1].Vars = 8 }},
		{"a choice with more variables than there are", func(s *state) { s.Choices[2].Vars = 13 }},
		{"a choice with variables below 0", func(s *state) { s.Choices[0] = choice{Vars: -1, Call: read("e(a,a)"), Next: 0} }},
		{"a choice with fewer variables than are bound", func(s *state) { s.Choices[2].Vars, s.Choices[2].Call = 5, read("e(a,a)") }},
		{"a choice with fewer variables than its call", func(s *state) { s.Choices[2].Vars = 6 }},
		{"a choice with fewer variables than its goals", func(s *state) { s.Choices[1].Goals[1].Goal = sameOf("X5", "a") }},
		{"a call that is none", func(s *state) { s.Choices[2].Call = nil }},
		{"a call that is a variable", func(s *state) { s.Choices[2].Call = read("X0") }},
		{"a call that is a number", func(s *state) { s.Choices[2].Call = read("2") }},
		{"a call that is no term", func(s *state) { s.Choices[2].Call = read("e(X0,X1)")[:2] }},
		{"a call too great", func(s *state) { s.Choices[2].Call = slices.Concat(read("e(a,a)")[:2], chain(impl.TrmMost-1)) }},
		{"a call of no clause", func(s *state) { s.Choices[2].Call = read("z(X0,X1)") }},
		{"a call with fewer arguments", func(s *state) { s.Choices[2].Call = read("e(X0)") }},
		{"a call with a variable beyond", func(s *state) { s.Choices[2].Call = read("e(X7,X0)") }},
		{"a choice with a cut of all", func(s *state) { s.Choices[1].Goals[0].Cut = 2 }},
		{"a choice with a cut below 0", func(s *state) { s.Choices[1].Goals[0].Cut = -1 }},
		{"a choice's goal with a cut that is none", func(s *state) { s.Choices[1].Goals[1].Cut = 1 }},
		{"a choice too many ahead of a cut", func(s *state) { s.Choices = s.Choices[1:] }},
		{"a cut of more than there are", func(s *state) { s.Goals[2].Cut = 4 }},
		{"a cut below 0", func(s *state) { s.Goals[2].Cut = -1 }},
		{"a cut beyond all", func(s *state) { s.Goals[2].Cut = math.MaxInt }},
		{"choices gone that a cut speaks of", func(s *state) { s.Choices = s.Choices[:1] }},
	}
	for _, next := range []int{math.MinInt, -1, 1, 3, 5, math.MaxInt} {
		all = append(all, turn{"a next clause that is none of its name", func(s *state) { s.Choices[2].Next = next }})
	}
	return append(all, harmfulGoals()...)
}

// harmfulGoals turns a goal of richState, or of a choice of it, to what is not ok.
func harmfulGoals() []turn {
	var all []turn
	for _, g := range []goal{
		{}, {Kind: 7, A: read("a")}, {Kind: -1}, callOf("X0"), callOf("3"), callOf("e(X12,X0)"), {Kind: impl.GoalCall}, {Kind: impl.GoalCall, A: read("a"), B: read("a")},
		{Kind: impl.GoalCall, A: chain(impl.TrmMost + 1)}, sameOf("X12", "a"), sameOf("a", "g(X12)"), {Kind: impl.GoalSame, A: read("a")}, {Kind: impl.GoalSame, B: read("a")},
		{Kind: impl.GoalSame, A: read("a"), B: read("a"), C: read("a")}, {Kind: impl.GoalSame, A: read("a"), B: chain(impl.TrmMost + 1)}, lessOf("X12", "1"), lessOf("1", "X12"),
		{Kind: impl.GoalLess, A: read("1")}, {Kind: impl.GoalLess, A: read("1"), B: places(number(impl.TrmNums + 1))}, plusOf("X12", "1", "1"), plusOf("1", "X12", "1"), plusOf("1", "1", "X12"),
		{Kind: impl.GoalPlus, A: read("1"), B: read("1")}, {Kind: impl.GoalPlus, A: read("1"), B: read("1"), C: places(number(-impl.TrmNums - 1))}, {Kind: impl.GoalCut, A: read("a")},
		{Kind: impl.GoalCut, C: read("a")}, {Kind: impl.GoalExit}, {Kind: impl.GoalExit, A: read("e(X12)")}, {Kind: impl.GoalExit, A: read("a"), B: read("a")}, {Kind: impl.GoalExit, A: chain(impl.TrmMost + 1)},
		{Kind: impl.GoalExit, A: read("X0")}, {Kind: impl.GoalExit, A: read("0")},
	} {
		all = append(all,
			turn{"a goal that is none", func(s *state) { s.Goals = append(s.Goals, pending{Goal: g}) }},
			turn{"a choice's goal that is none", func(s *state) { s.Choices[2].Goals = []pending{{Goal: g}} }},
			turn{"a first goal that is none", func(s *state) { s.Goals = append([]pending{{Goal: g}}, s.Goals...) }})
	}
	for k := range richState().Goals {
		if richState().Goals[k].Goal.Kind != impl.GoalCut {
			all = append(all, turn{"a goal with a cut that is none", func(s *state) { s.Goals[k].Cut = 1 }})
		}
	}
	return all
}

// checkNotOk: of solving that is not ok there is nothing.
func checkNotOk(t *testing.T, what string, p prog, s state) {
	t.Helper()
	if plainSolvingOk(p, s) || impl.SlvOk(p, s) {
		t.Errorf("%s: ok: %v", what, s)
	}
	if got := impl.SlvStep(p, s); !isNothing(got) {
		t.Errorf("%s: behind a step it is %v", what, got)
	}
	for _, fuel := range []int{-1, 0, 1, 7, impl.SlvFuel} {
		if got := impl.SlvRun(p, s, fuel); !isNothing(got) {
			t.Errorf("%s: behind %d steps it is %v", what, fuel, got)
		}
	}
}

func TestSolvingOkByHand(t *testing.T) {
	for _, one := range harmless() {
		s := richState()
		one.turn(&s)
		if !plainSolvingOk(richProg(), s) || !impl.SlvOk(richProg(), s) {
			t.Errorf("%s: not ok: %v", one.what, s)
		}
		for _, fuel := range []int{-1, 0, 1, 2, 3, 9, 30} {
			if got, want := impl.SlvRun(richProg(), s, fuel), plainRun(richProg(), s, fuel); !sameValue(got, want) {
				t.Errorf("%s: behind %d steps it is %v, want %v", one.what, fuel, got, want)
			}
		}
	}
	for _, one := range harmful() {
		s := richState()
		one.turn(&s)
		checkNotOk(t, one.what, richProg(), s)
	}
	checkNotOk(t, "nothing", richProg(), state{})
	checkNotOk(t, "another program", program("e(a)", "z"), richState())
	checkNotOk(t, "a program of fewer clauses", prog{Clauses: richProg().Clauses[:4]}, richState())
}

func TestAnswersOkByHand(t *testing.T) {
	s := answerState()
	if !impl.SlvOk(richProg(), s) || !plainSolvingOk(richProg(), s) {
		t.Fatalf("not ok: %v", s)
	}
	if got := impl.SlvStep(richProg(), s); got.Status != impl.SlvGoes || len(got.Out) != 0 || !sameValue(got, plainStep(richProg(), s)) {
		t.Errorf("behind it: %v", got)
	}
	for _, out := range []string{"p(g(X0),f(8,a))", "p(g(X1),f(7,a))", "p(g(X5),f(7,a))", "p(X0,X1)", "p(X3,f(X4,a))", "p(g(a),f(7,a))", "X0", "z"} {
		s.Out = read(out)
		checkNotOk(t, "answer "+out, richProg(), s)
	}
	s = answerState()
	s.Out = s.Out[:3]
	checkNotOk(t, "a part of the answer", richProg(), s)
	s = answerState()
	s.Goals = []pending{{Goal: cutHere()}}
	checkNotOk(t, "an answer with a goal", richProg(), s)
	// What the question is then has more places than a term.
	big := state{Status: impl.SlvAnswer, Binds: append(doubling(6), binds("X6=a")...), Vars: 7, Top: read("p(X0)")}
	checkNotOk(t, "an answer too big, without a term", richProg(), big)
	big.Out = read("p(X0)")
	checkNotOk(t, "an answer too big", richProg(), big)
	big.Status, big.Out = impl.SlvGoes, nil
	if !impl.SlvOk(richProg(), big) {
		t.Errorf("it goes on, and is not ok: %v", big)
	}
	if got := impl.SlvStep(richProg(), big); !sameValue(got, state{Status: impl.SlvBig, Top: read("p(X0)")}) {
		t.Errorf("an answer too big is %v", got)
	}
}

// TestEndedHasTopAlone: anything beside the question makes it not ok.
func TestEndedHasTopAlone(t *testing.T) {
	p, rich := richProg(), richState()
	for _, status := range []int{impl.SlvNone, impl.SlvBig, impl.SlvWrong} {
		ended := state{Status: status, Top: rich.Top}
		if !impl.SlvOk(p, ended) {
			t.Errorf("not ok: %v", ended)
		}
		for what, one := range map[string]func(*state){
			"goals": func(s *state) { s.Goals = rich.Goals[:1] }, "bindings": func(s *state) { s.Binds = rich.Binds[:1] }, "variables": func(s *state) { s.Vars = 2 },
			"a variable": func(s *state) { s.Vars = 1 }, "variables below 0": func(s *state) { s.Vars = -1 }, "choices": func(s *state) { s.Choices = rich.Choices[:1] },
			"an answer": func(s *state) { s.Out = read("p(a,b)") }, "the question as answer": func(s *state) { s.Out = s.Top }, "a wrong answer": func(s *state) { s.Out = places(cell{}) },
			"no question": func(s *state) { s.Top = nil }, "another order": func(s *state) { s.Top = read("p(X1,X0)") }, "a number": func(s *state) { s.Top = read("4") }, "all": func(s *state) { *s = rich; s.Status = status },
		} {
			s := ended
			one(&s)
			checkNotOk(t, "ended, with "+what, p, s)
		}
	}
}

// TestCutThatLeavesTooFew: what is ok may not be behind a step, if it did not begin with SlvNew; then there is nothing behind the next one.
func TestCutThatLeavesTooFew(t *testing.T) {
	p := richProg()
	s := state{Status: impl.SlvGoes, Goals: []pending{{Goal: cutHere(), Cut: 0}, {Goal: cutHere(), Cut: 1}, {Goal: cutHere(), Cut: 0}}, Choices: []choice{{Call: read("q(a)"), Next: 1}}, Top: read("z")}
	if !impl.SlvOk(p, s) {
		t.Fatalf("not ok: %v", s)
	}
	one := impl.SlvStep(p, s)
	want := state{Status: impl.SlvGoes, Goals: s.Goals[1:], Top: s.Top}
	if !sameValue(one, want) || impl.SlvOk(p, one) {
		t.Errorf("behind a step it is %v", one)
	}
	for fuel := 2; fuel < 6; fuel++ {
		if got := impl.SlvRun(p, s, fuel); !isNothing(got) {
			t.Errorf("behind %d steps it is %v", fuel, got)
		}
	}
	s.Goals[1], s.Goals[2] = s.Goals[2], s.Goals[1]
	for fuel := range 6 {
		if got, want := impl.SlvRun(p, s, fuel), plainRun(p, s, fuel); !sameValue(got, want) || isNothing(got) != (fuel > 1) {
			t.Errorf("with the cut further behind, behind %d steps, it is %v, want %v", fuel, got, want)
		}
	}
	few := state{Status: impl.SlvGoes, Goals: []pending{{Goal: callOf("no")}}, Vars: 40, Choices: []choice{{Call: read("q(b)"), Next: 1}}, Top: manyVars()}
	for fuel := range 5 {
		if got, want := impl.SlvRun(p, few, fuel), plainRun(p, few, fuel); !sameValue(got, want) || isNothing(got) != (fuel > 1) {
			t.Errorf("with fewer variables in a choice, behind %d steps, it is %v, want %v", fuel, got, want)
		}
	}
}

// turnSome turns something of a value, somewhere within it: a number, a text, or a list.
func turnSome(r *rand.Rand, v reflect.Value) {
	switch v.Kind() {
	case reflect.Int:
		switch r.IntN(4) {
		case 0:
			v.SetInt(int64(r.IntN(12)))
		case 1:
			v.SetInt([]int64{-1, 0, impl.TrmVars, impl.TrmVars + 1, impl.TrmNums + 1, math.MaxInt, math.MinInt}[r.IntN(7)])
		default:
			v.SetInt(v.Int() + int64(1-2*r.IntN(2)))
		}
	case reflect.Bool:
		v.SetBool(!v.Bool())
	case reflect.String:
		v.SetString([]string{"", "a", "b", "e", "p", "q", "B"}[r.IntN(7)])
	case reflect.Struct:
		turnSome(r, v.Field(r.IntN(v.NumField())))
	case reflect.Slice:
		turnList(r, v)
	}
}

func turnList(r *rand.Rand, v reflect.Value) {
	n := v.Len()
	if n == 0 {
		v.Set(reflect.Append(v, reflect.Zero(v.Type().Elem())))
		return
	}
	k := r.IntN(n)
	switch r.IntN(9) {
	case 0:
		v.Set(reflect.AppendSlice(v.Slice3(0, k, k), v.Slice(k+1, n)))
	case 1:
		v.Set(v.Slice3(0, k, k))
	case 2:
		v.Set(reflect.Append(v.Slice3(0, n, n), v.Index(k)))
	case 3:
		if k > 0 {
			was := reflect.ValueOf(v.Index(k).Interface())
			v.Index(k).Set(v.Index(k - 1))
			v.Index(k - 1).Set(was)
		}
	default:
		turnSome(r, v.Index(k))
	}
}

// TestTurnedSolvingIsAsPlainlyTold holds solving with something turned in it against the plain reading.
func TestTurnedSolvingIsAsPlainlyTold(t *testing.T) {
	t.Parallel()
	r := steady()
	ok, wrong, lost := 0, 0, 0
	for _, q := range append(somePosed(300), posed{richProg(), read("p(X0,X1)")}) {
		all := append(statesOf(q, 25), richState(), answerState())
		for range 60 {
			s := noSpareOf(all[r.IntN(len(all))])
			for range 1 + r.IntN(2) {
				turnSome(r, reflect.ValueOf(&s).Elem())
			}
			want := plainSolvingOk(q.p, s)
			if got := impl.SlvOk(q.p, s); got != want {
				t.Fatalf("%v: %t, want %t, of %v", q, got, want, s)
			}
			if !want {
				wrong++
				if got := impl.SlvStep(q.p, s); !isNothing(got) {
					t.Errorf("%v: behind a step it is %v", q, got)
				}
				continue
			}
			ok++
			if got, then := impl.SlvStep(q.p, s), plainStep(q.p, s); !sameValue(got, then) {
				t.Fatalf("%v: behind a step %v is\n%v, want\n%v", q, s, got, then)
			}
			fuel := r.IntN(12)
			got, then := impl.SlvRun(q.p, s, fuel), plainRun(q.p, s, fuel)
			if !sameValue(got, then) {
				t.Fatalf("%v: behind %d steps %v is\n%v, want\n%v", q, fuel, s, got, then)
			}
			if isNothing(then) {
				lost++
			}
		}
	}
	if ok < 2000 || wrong < 5000 {
		t.Errorf("only %d are ok, %d are not, %d come to nothing", ok, wrong, lost)
	}
}
