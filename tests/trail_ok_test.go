package tests

import (
	"math"
	"reflect"
	"slices"
	"testing"

	"loop.example/catechist/impl"
)

type trailTurn struct {
	what string
	turn func(*trailState)
}

// far and near are places of richTrail's choices: one that is far, one that is not, and the last one, which is far.
const (
	nearAt = 1
	farAt  = 2
	lastAt = 4
)

// harmlessTrail turns richTrail to what is ok as well.
func harmlessTrail() []trailTurn {
	return []trailTurn{
		{"as it is", func(s *trailState) {}},
		{"no goals", func(s *trailState) { s.Goals = nil }},
		{"the first outcome", func(s *trailState) { s.Choices[farAt].Far = 1 }},
		{"the last outcome", func(s *trailState) { s.Choices[farAt].Far = impl.SlvFuel }},
		{"another outcome", func(s *trailState) { s.Choices[lastAt].Far = 77 }},
		{"a far choice with all bindings", func(s *trailState) { s.Choices[lastAt].Mark, s.Choices[lastAt].Vars = len(s.Binds), 12 }},
		{"a far choice with the bindings of the one ahead", func(s *trailState) { s.Choices[farAt].Mark, s.Choices[farAt].Vars = 2, 7 }},
		{"choices with no bindings", func(s *trailState) {
			for k := range s.Choices {
				s.Choices[k].Mark = 0
			}
		}},
		{"a far call of the other node", func(s *trailState) { s.Choices[farAt].Call = read("w(X0)") }},
		{"a far call as great as may be", func(s *trailState) { s.Choices[farAt].Call = slices.Concat(read("w(a)")[:1], chain(impl.TrmMost-1)) }},
		{"a far choice with a cut of those ahead", func(s *trailState) { s.Choices[farAt].Goals[0].Cut = 2 }},
		{"a far choice without goals", func(s *trailState) { s.Choices[farAt].Goals = nil }},
		{"a far choice with its variables as the next one", func(s *trailState) { s.Choices[2].Vars, s.Choices[3].Vars = 7, 7 }},
		{"a choice of another node's call that is not far", func(s *trailState) { s.Choices[nearAt].Call, s.Choices[nearAt].Next = read("v(X0,X1)"), 6 }},
		{"a last choice that is not far", func(s *trailState) { s.Choices = s.Choices[:4] }},
		{"no choices", func(s *trailState) { s.Choices, s.Goals = nil, nil }},
		{"more variables", func(s *trailState) { s.Vars = impl.TrmVars }},
		{"a cut of all choices", func(s *trailState) { s.Goals[2].Cut = 5 }},
	}
}

// harmfulTrail turns richTrail to what is not ok, each for another cause of the chapter's own.
func harmfulTrail() []trailTurn {
	all := []trailTurn{
		{"a mark below 0", func(s *trailState) { s.Choices[0].Mark = -1 }},
		{"a mark that falls", func(s *trailState) { s.Choices[nearAt].Mark = 4 }},
		{"a far choice's mark that falls", func(s *trailState) { s.Choices[farAt].Mark = 1 }},
		{"a far choice's mark above the next one's", func(s *trailState) { s.Choices[farAt].Mark, s.Choices[farAt].Vars = 4, 7 }},
		{"a mark of one binding more", func(s *trailState) { s.Choices[lastAt].Mark, s.Choices[lastAt].Vars = 6, 12 }},
		{"a mark beyond all", func(s *trailState) { s.Choices[lastAt].Mark = math.MaxInt }},
		{"a mark far below 0", func(s *trailState) { s.Choices[0].Mark = math.MinInt }},
		{"a choice with fewer variables than are bound", func(s *trailState) { s.Choices[lastAt].Mark = 5 }},
		{"a far choice with a next clause", func(s *trailState) { s.Choices[farAt].Next = 5 }},
		{"a far choice with a next clause below 0", func(s *trailState) { s.Choices[farAt].Next = -1 }},
		{"a far choice with a next clause 1", func(s *trailState) { s.Choices[farAt].Next = 1 }},
		{"a far choice of a call that is done here", func(s *trailState) { s.Choices[farAt].Call = read("e(X0,X1)") }},
		{"a far choice of a call of no clause that is done here", func(s *trailState) { s.Choices[farAt].Call = read("zz") }},
		{"a far choice of a name with other arguments", func(s *trailState) { s.Choices[farAt].Call = read("v(X0)") }},
		{"a far choice of a variable", func(s *trailState) { s.Choices[farAt].Call = read("X0") }},
		{"a far choice of a number", func(s *trailState) { s.Choices[farAt].Call = read("1") }},
		{"a far choice without a call", func(s *trailState) { s.Choices[farAt].Call = nil }},
		{"a far choice of what is no term", func(s *trailState) { s.Choices[farAt].Call = read("v(X0,X1)")[:2] }},
		{"a far choice of a call too great", func(s *trailState) { s.Choices[farAt].Call = slices.Concat(read("w(a)")[:1], chain(impl.TrmMost)) }},
		{"a far choice of a call with a variable beyond", func(s *trailState) { s.Choices[farAt].Call = read("v(X7,X0)") }},
		{"a choice that is not far with an outcome", func(s *trailState) { s.Choices[nearAt].Far = 1 }},
		{"a choice that is not far with an outcome, and no next clause", func(s *trailState) { s.Choices[nearAt].Far, s.Choices[nearAt].Next = 1, 0 }},
		{"a choice that is not far with an outcome below 0", func(s *trailState) { s.Choices[nearAt].Far = -1 }},
		{"a choice of another node's call, without an outcome or a clause", func(s *trailState) { s.Choices[farAt].Far = 0 }},
		{"a choice of another node's call, at another one's clause", func(s *trailState) { s.Choices[farAt].Far, s.Choices[farAt].Next = 0, 7 }},
		{"a far choice with a cut of more than are ahead", func(s *trailState) { s.Choices[farAt].Goals[0].Cut = 3 }},
		{"a far choice with a goal of a variable beyond", func(s *trailState) { s.Choices[farAt].Goals[1].Goal = sameOf("X7", "a") }},
		{"a far choice with a goal that is none", func(s *trailState) { s.Choices[farAt].Goals[1].Goal = goal{} }},
		{"a far choice with more variables than the next one", func(s *trailState) { s.Choices[farAt].Vars = 8 }},
		{"a far choice with more variables than there are", func(s *trailState) { s.Choices[lastAt].Vars = 13 }},
		{"a far choice with fewer variables than the one ahead", func(s *trailState) {
			s.Choices[farAt] = trailChoice{Mark: 2, Vars: 4, Call: read("w(a)"), Far: 1}
		}},
		{"it waits, with all its goals", func(s *trailState) { s.Status = impl.SlvWaits }},
	}
	for _, far := range []int{math.MinInt, -impl.SlvFuel, -1, impl.SlvFuel + 1, math.MaxInt} {
		all = append(all, trailTurn{"an outcome that is none", func(s *trailState) { s.Choices[farAt].Far = far }},
			trailTurn{"an outcome that is none, of the last choice", func(s *trailState) { s.Choices[lastAt].Far = far }})
	}
	return all
}

// harmfulWaits turns waitTrail to what is not ok.
func harmfulWaits() []trailTurn {
	all := []trailTurn{
		{"a goal", func(s *trailState) { s.Goals = []pending{{Goal: cutHere()}} }},
		{"goals", func(s *trailState) { s.Goals = richTrail().Goals }},
		{"an answer", func(s *trailState) { s.Out = answerState().Out }},
		{"the call as answer", func(s *trailState) { s.Out = read("w(X0)") }},
		{"no choices", func(s *trailState) { s.Choices = nil }},
		{"a last choice that is not far", func(s *trailState) {
			s.Choices[lastAt] = trailChoice{Mark: len(s.Binds), Vars: s.Vars, Call: read("e(X0,X1)"), Next: 4}
		}},
		{"a last choice of another node that is not far", func(s *trailState) {
			s.Choices[lastAt] = trailChoice{Mark: len(s.Binds), Vars: s.Vars, Call: read("w(X0)"), Next: 7}
		}},
		{"the last choice gone", func(s *trailState) { s.Choices = s.Choices[:lastAt] }},
		{"no outcome", func(s *trailState) { s.Choices[lastAt].Far = 0 }},
		{"an outcome below 0", func(s *trailState) { s.Choices[lastAt].Far = -1 }},
		{"an outcome beyond", func(s *trailState) { s.Choices[lastAt].Far = impl.SlvFuel + 1 }},
		{"a mark of one binding less", func(s *trailState) { s.Choices[lastAt].Mark-- }},
		{"a mark of one binding more", func(s *trailState) { s.Choices[lastAt].Mark++ }},
		{"a mark of none", func(s *trailState) {
			for k := range s.Choices {
				s.Choices[k].Mark = 0
			}
		}},
		{"a binding more", func(s *trailState) { s.Binds = append(s.Binds, binds("X5=a")...) }},
		{"a variable more", func(s *trailState) { s.Vars++ }},
		{"a variable less in its choice", func(s *trailState) { s.Choices[lastAt].Vars-- }},
		{"a call that is done here", func(s *trailState) { s.Choices[lastAt].Call = read("e(X0,X1)") }},
		{"a next clause", func(s *trailState) { s.Choices[lastAt].Next = 7 }},
		{"another status", func(s *trailState) { s.Status = 7 }},
		{"a status 0", func(s *trailState) { s.Status = 0 }},
		{"no question", func(s *trailState) { s.Top = nil }},
		{"a question numbered otherwise", func(s *trailState) { s.Top = read("p(X1,X0)") }},
	}
	for _, status := range []int{impl.SlvNone, impl.SlvBig, impl.SlvWrong, impl.SlvAnswer} {
		all = append(all, trailTurn{"another status", func(s *trailState) { s.Status = status }})
	}
	return all
}

// checkTrailNotOk: of solving at a node that is not ok there is nothing.
func checkTrailNotOk(t *testing.T, what string, p prog, node int, s trailState) {
	t.Helper()
	if plainTrailOk(p, node, s) || impl.TrlOk(p, node, s) {
		t.Errorf("%s %s: ok: %v", what, atNode(node), s)
	}
	if got := impl.TrlStep(p, node, s); !isNothing(got) {
		t.Errorf("%s %s: behind a step it is %v", what, atNode(node), got)
	}
	want, n := impl.TrlWants(s)
	for _, o := range []outcome{{Status: impl.SlvNone}, {Status: impl.SlvWrong}, {Status: impl.SlvAnswer, Term: want}, {}} {
		if got := impl.TrlTake(p, node, s, want, n, o); !isNothing(got) {
			t.Errorf("%s %s: behind %v it is %v", what, atNode(node), o, got)
		}
	}
}

func TestTrailOkByHand(t *testing.T) {
	p := richFarProg()
	for _, one := range harmlessTrail() {
		s := richTrail()
		one.turn(&s)
		if !plainTrailOk(p, 0, s) || !impl.TrlOk(p, 0, s) {
			t.Errorf("%s: not ok: %v", one.what, s)
		}
		for k := 0; k < 12 && s.Status != impl.SlvWaits; k++ {
			next := impl.TrlStep(p, 0, s)
			if want := plainTrailStep(p, 0, s); !sameValue(next, want) {
				t.Fatalf("%s: behind step %d it is %v, want %v", one.what, k, next, want)
			}
			s = next
		}
		// At a node where nothing is far none of them may be, and at the calls' own ones they are not.
		s = richTrail()
		one.turn(&s)
		for _, node := range []int{-2, -1, 1, 2, impl.PrgNodes} {
			if got, want := impl.TrlOk(p, node, s), plainTrailOk(p, node, s); got != want || got && slices.ContainsFunc(s.Choices, func(c trailChoice) bool { return c.Far > 0 }) && node == -1 {
				t.Errorf("%s %s: ok: %t, want %t", one.what, atNode(node), got, want)
			}
		}
	}
	for _, one := range harmfulTrail() {
		s := richTrail()
		one.turn(&s)
		checkTrailNotOk(t, one.what, p, 0, s)
	}
	checkTrailNotOk(t, "nothing", p, 0, trailState{})
	checkTrailNotOk(t, "with far choices", p, -1, richTrail())
	checkTrailNotOk(t, "with far choices of this node", p, 1, richTrail())
	checkTrailNotOk(t, "with far choices of this node", p, 2, richTrail())
	checkTrailNotOk(t, "by a program at one node", impl.PrgAlone(p), 0, richTrail())
	checkTrailNotOk(t, "by another program", program("at 1 v 2", "at 2 w 1", "e(a)"), 0, richTrail())
}

func TestWaitingOkByHand(t *testing.T) {
	p := richFarProg()
	for _, node := range []int{0, -2, -1, 1, 2, 3} {
		if got := impl.TrlOk(p, node, waitTrail()); got != (node == 0) || got != plainTrailOk(p, node, waitTrail()) {
			t.Errorf("what waits is ok %s: %t", atNode(node), got)
		}
		if node != 0 {
			checkTrailNotOk(t, "what waits", p, node, waitTrail())
		}
	}
	for _, one := range harmfulWaits() {
		s := waitTrail()
		one.turn(&s)
		checkTrailNotOk(t, "it waits, with "+one.what, p, 0, s)
	}
	for far, want := range map[int]bool{math.MinInt: false, -1: false, 0: false, 1: true, 2: true, impl.SlvFuel - 1: true, impl.SlvFuel: true, impl.SlvFuel + 1: false, math.MaxInt: false} {
		s := waitTrail()
		s.Choices[lastAt].Far = far
		if got := impl.TrlOk(p, 0, s); got != want {
			t.Errorf("waiting for outcome %d it is ok: %t", far, got)
		}
	}
	// What is no name is called nowhere, and so at no other node either.
	for _, call := range []string{"X0", "7", "zz", "q(X0)"} {
		s := trailState{Status: impl.SlvWaits, Vars: 1, Choices: []trailChoice{{Vars: 1, Call: read(call), Far: 1}}, Top: read("z")}
		for _, node := range allNodes() {
			if got, want := impl.TrlOk(p, node, s), len(call) > 1 && call != "X0" && node > 0; got != want {
				t.Errorf("waiting for %s %s it is ok: %t", call, atNode(node), got)
			}
		}
	}
	none := trailState{Status: impl.SlvWaits, Top: read("z")}
	checkTrailNotOk(t, "it waits for nothing", p, 0, none)
}

// TestTrailsOfOneMachine: what is ok of the first machine, or is not, is so of the second one at node -1; and wherever all is done here.
func TestTrailsOfOneMachine(t *testing.T) {
	turned := 0
	for _, one := range harmful() {
		first := richState()
		one.turn(&first)
		if s, same := trailOf(first); same {
			turned++
			for _, node := range []int{-1, 0} {
				checkTrailNotOk(t, one.what, richProg(), node, s)
			}
		}
	}
	if turned < 100 {
		t.Errorf("only %d are turned", turned)
	}
	for _, one := range harmless() {
		first := richState()
		one.turn(&first)
		s, _ := trailOf(first)
		for _, node := range allNodes() {
			if !impl.TrlOk(richProg(), node, s) {
				t.Errorf("%s: not ok %s: %v", one.what, atNode(node), s)
			}
		}
	}
	for _, out := range []string{"p(g(X0),f(8,a))", "p(g(X1),f(7,a))", "p(X0,X1)", "X0", "z"} {
		s := answerTrail()
		s.Out = read(out)
		checkTrailNotOk(t, "answer "+out, richFarProg(), 0, s)
	}
	s := answerTrail()
	s.Out = nil
	checkTrailNotOk(t, "an answer without a term", richFarProg(), 0, s)
	s = answerTrail()
	s.Goals = []pending{{Goal: cutHere()}}
	checkTrailNotOk(t, "an answer with a goal", richFarProg(), 0, s)
	if !impl.TrlOk(richFarProg(), 0, answerTrail()) {
		t.Errorf("not ok: %v", answerTrail())
	}
}

// TestEndedTrailHasTopAlone: anything beside the question makes it not ok.
func TestEndedTrailHasTopAlone(t *testing.T) {
	p, rich := richFarProg(), richTrail()
	for _, status := range []int{impl.SlvNone, impl.SlvBig, impl.SlvWrong} {
		ended := trailState{Status: status, Top: rich.Top}
		for _, node := range allNodes() {
			if !impl.TrlOk(p, node, ended) {
				t.Errorf("not ok %s: %v", atNode(node), ended)
			}
			for what, one := range map[string]func(*trailState){
				"goals": func(s *trailState) { s.Goals = rich.Goals[:1] }, "bindings": func(s *trailState) { s.Binds = rich.Binds[:1] }, "variables": func(s *trailState) { s.Vars = 2 },
				"variables below 0": func(s *trailState) { s.Vars = -1 }, "a choice": func(s *trailState) { s.Choices = rich.Choices[:1] }, "a choice of nothing": func(s *trailState) { s.Choices = make([]trailChoice, 1) },
				"a far choice": func(s *trailState) { s.Choices = []trailChoice{{Call: read("w(a)"), Far: 1}} }, "an answer": func(s *trailState) { s.Out = read("p(a,b)") },
				"no question": func(s *trailState) { s.Top = nil }, "a number": func(s *trailState) { s.Top = read("4") }, "all": func(s *trailState) { *s = rich; s.Status = status },
			} {
				s := ended
				one(&s)
				checkTrailNotOk(t, "ended, with "+what, p, node, s)
			}
		}
	}
}

// TestTrailOfAWrongProgram: of it nothing is done.
func TestTrailOfAWrongProgram(t *testing.T) {
	for _, p := range wrongProgs() {
		top := read("e(a,X0)")
		for _, s := range []trailState{impl.TrlNew(top), {Status: impl.SlvNone, Top: top}, {Status: impl.SlvWaits, Vars: 1, Choices: []trailChoice{{Vars: 1, Call: read("f(X0,a)"), Far: 1}}, Top: top}} {
			for _, node := range []int{-1, 0} {
				if impl.TrlOk(p, node, s) || !isNothing(impl.TrlStep(p, node, s)) || !isNothing(impl.TrlTake(p, node, s, read("f(X0,a)"), 1, outcome{Status: impl.SlvNone})) {
					t.Errorf("%s by %.300v: %v", atNode(node), p, impl.TrlStep(p, node, s))
				}
			}
		}
	}
}

// TestTurnedTrailsAreAsPlainlyTold holds solving at a node with something turned in it against the plain reading.
func TestTurnedTrailsAreAsPlainlyTold(t *testing.T) {
	t.Parallel()
	r := steady()
	ok, wrong, waits := 0, 0, 0
	for _, q := range append(spreadPosed(250), posed{richFarProg(), read("p(X0,X1)")}) {
		for _, node := range allNodes() {
			all := append(trailsOf(q, node, 25), richTrail(), waitTrail(), answerTrail())
			for range 25 {
				s := noSpareOf(all[r.IntN(len(all))])
				for range 1 + r.IntN(4)/3 {
					turnSome(r, reflect.ValueOf(&s).Elem())
				}
				if plainTrailOk(q.p, node, s) {
					ok++
					waits += min(len(s.Choices), s.Status/impl.SlvWaits)
				} else {
					wrong++
				}
				checkTrailPlainly(t, q.p, node, s)
			}
		}
	}
	if ok < 2500 || wrong < 8000 || waits < 200 {
		t.Errorf("only %d are ok, %d are not, %d wait", ok, wrong, waits)
	}
}

// checkTrailPlainly holds all that is done with solving at a node against the plain reading.
func checkTrailPlainly(t *testing.T, p prog, node int, s trailState) {
	t.Helper()
	if got, want := impl.TrlOk(p, node, s), plainTrailOk(p, node, s); got != want {
		t.Fatalf("%s: %t, want %t, of %v by %v", atNode(node), got, want, s, p)
	}
	if got, want := impl.TrlStep(p, node, s), plainTrailStep(p, node, s); !sameValue(got, want) {
		t.Fatalf("%s: behind a step %v is\n%v, want\n%v", atNode(node), s, got, want)
	}
	top, n := impl.TrlWants(s)
	if want, far := plainWants(s); !slices.Equal(top, want) || n != far {
		t.Fatalf("%v waits for %v, %d", s, top, n)
	}
	for _, o := range []outcome{{Status: impl.SlvAnswer, Term: top}, {Status: impl.SlvNone}, {Status: impl.SlvBig}, {Status: impl.SlvGoes}} {
		if got, want := impl.TrlTake(p, node, s, top, n, o), plainTake(p, node, s, top, n, o); !sameValue(got, want) {
			t.Fatalf("%s: behind %v %v is\n%v, want\n%v", atNode(node), o, s, got, want)
		}
	}
}
