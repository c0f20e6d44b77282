package tests

import (
	"math/rand/v2"
	"slices"
	"strconv"
	"testing"

	"loop.example/catechist/impl"
)

// allNodes are the nodes at which solving can be: -1, where all is done here, and each other one.
func allNodes() []int { return []int{-1, 0, 1, impl.PrgNodes - 1} }

// farNodes are the nodes at which calls of others are far.
func farNodes() []int { return []int{0, 1, impl.PrgNodes - 1} }

// spread is a program with the names of its clauses, and one that has none, at nodes of all sorts.
func spread(r *rand.Rand, p prog) prog {
	heads := places(name("none", 0))
	for _, c := range p.Clauses {
		heads = append(heads, c.Head[0])
	}
	r.Shuffle(len(heads), func(i, j int) { heads[i], heads[j] = heads[j], heads[i] })
	other := prog{Clauses: p.Clauses}
	for _, h := range heads {
		again := slices.ContainsFunc(other.Places, func(o told) bool { return o.Name == h.Name && o.N == h.N })
		if node := r.IntN(impl.PrgNodes); node > 0 && !again && len(other.Places) < impl.PrgPlaces {
			other.Places = append(other.Places, placed(h.Name, h.N, node))
		}
	}
	return other
}

// spreadPosed are programs and questions by hand, some at each node and some at nodes of all sorts, and so many made ones.
func spreadPosed(made int) []posed {
	r, all := rand.New(rand.NewPCG(5, 17)), handFar()
	for _, q := range somePosed(made) {
		all = append(all, posed{spread(r, q.p), q.top})
	}
	return all
}

// handFar are programs and questions written by hand, whose calls are at several nodes.
func handFar() []posed {
	paths := program("at 1 e 2", "at 2 p 2", "e(a,b)", "e(b,c)", "e(a,c)", "p(X0,X1) if e(X0,X1)", "p(X0,X2) if e(X0,X1) and p(X1,X2)", "q(X0) if p(a,X0) and !", "q(z)")
	cuts := program("at 1 k 1", "at 2 j 0", "m(X0) if k(X0) and ! and j", "m(7)", "k(1)", "k(2)", "j", "o(X0) if k(X0) and m(X0)", "o(X0) if k(X1) and ! and k(X0)", "o(9)", "both(X0,X1) if k(X0) and k(X1)")
	vars := program("at 1 v 2", "at 2 w 1", "v(X0,f(X0,X1))", "v(X3,X3)", "v(a,X7)", "w(X0) if v(X0,X1) and v(X1,X2)", "u(X0,X1) if v(X0,X1) and X0 = a", "u(X0,X1) if w(X0) and v(X1,X0)")
	ends := program("at 1 bad 1", "at 2 big 1", "at 1 no 1", "bad(1)", "bad(X0) if X0 < a", "big(b)", "big(X0) if big(g(X0))", "s(X0) if bad(X0)", "s(c)", "t(X0) if big(X0)", "t(c)", "r(X0) if no(X0)", "r(X0) if l(X0) and no(X0)", "l(X0) if X0 = 1")
	var all []posed
	for _, one := range []struct {
		p         prog
		questions []string
	}{
		{paths, []string{"p(a,X0)", "p(X0,c)", "p(X0,X1)", "p(X0,X0)", "q(X0)", "q(z)", "e(X0,X1)", "e(a,X0)"}},
		{cuts, []string{"m(X0)", "m(2)", "m(7)", "o(X0)", "o(2)", "k(X0)", "j", "both(X0,X1)", "both(X0,X0)", "both(1,X0)"}},
		{vars, []string{"v(X0,X1)", "v(X0,X0)", "w(X0)", "u(X0,X1)", "u(X0,X0)", "u(X0,a)", "w(f(X0,X0))"}},
		{ends, []string{"s(X0)", "s(c)", "s(1)", "t(X0)", "t(b)", "t(c)", "r(X0)", "r(1)", "no(X0)", "bad(X0)", "bad(a)", "big(X0)"}},
	} {
		for _, q := range one.questions {
			all = append(all, posed{one.p, plainCanon(read(q))})
		}
	}
	return all
}

// tellFuel is by how many steps one machine tells what is waited for. Within as many steps as a question is followed here it tells each outcome that its own calls ask for: an answer takes it two steps more than it does inside another question.
const tellFuel = 1500

// toldBy is the outcome that one machine tells, from 1 on, and whether it does.
func toldBy(p prog, top []cell, n int) (outcome, bool) {
	outs, _ := impl.SlvOuts(p, top, n, tellFuel)
	if n < 1 || len(outs) < n {
		return outcome{}, false
	}
	return outs[n-1], true
}

// onAt is solving at a node behind one step, or, if it waits, behind what one machine tells; and whether something was done.
func onAt(p prog, node int, s trailState) (trailState, bool) {
	if plainEnded(s.Status) {
		return s, false
	}
	if s.Status != impl.SlvWaits {
		return impl.TrlStep(p, node, s), true
	}
	want, n := impl.TrlWants(s)
	o, told := toldBy(p, want, n)
	if !told {
		return s, false
	}
	return impl.TrlTake(p, node, s, want, n, o), true
}

// trailsOf is how solving stands at a node behind each of so many steps.
func trailsOf(q posed, node int, steps int) []trailState {
	all := []trailState{impl.TrlNew(q.top)}
	for range steps {
		next, on := onAt(q.p, node, all[len(all)-1])
		if !on || next.Status == 0 {
			break
		}
		all = append(all, next)
	}
	return all
}

// outsAt is the first outcomes of a question at a node, told what it waits for, so many at most, by so many steps.
func outsAt(q posed, node int, most int, steps int) []outcome {
	var outs []outcome
	s, on := impl.TrlNew(q.top), true
	for k := 0; k < steps && len(outs) < most; k++ {
		if s, on = onAt(q.p, node, s); !on {
			break
		}
		if s.Status != impl.SlvGoes && s.Status != impl.SlvWaits {
			outs = append(outs, outcome{Status: s.Status, Term: s.Out})
		}
	}
	return outs
}

// trailOf is solving of the first machine as the second one has it, with nothing far; and whether its choices have the first bindings.
func trailOf(s state) (trailState, bool) {
	t := trailState{Status: s.Status, Goals: s.Goals, Binds: s.Binds, Vars: s.Vars, Top: s.Top, Out: s.Out}
	for _, c := range s.Choices {
		if len(c.Binds) > len(s.Binds) || !sameBinds(c.Binds, s.Binds[:len(c.Binds)]) {
			return trailState{}, false
		}
		t.Choices = append(t.Choices, trailChoice{Goals: c.Goals, Mark: len(c.Binds), Vars: c.Vars, Call: c.Call, Next: c.Next})
	}
	return t, true
}

// richFarProg is richProg with names at other nodes.
func richFarProg() prog {
	p := program("at 1 v 2", "at 2 w 1", "e(a,X0)", "q(b)", "e(b,c)", "p(X0,X1) if e(X0,X2) and ! and X2 = X1", "e(X0,X0)", "v(a,X0)", "v(X0,f(X0,X1))", "w(b)")
	if !sameValue(p.Clauses[:5], richProg().Clauses) {
		panic("other clauses")
	}
	return p
}

// richTrail is solving that is ok at node 0 by richFarProg and has something of all: goals, cuts, bindings, and choices that are far and not.
func richTrail() trailState {
	t, _ := trailOf(richState())
	far := trailChoice{Goals: []pending{{Goal: cutHere(), Cut: 1}, {Goal: sameOf("X5", "X2")}}, Mark: 3, Vars: 7, Call: read("v(X6,g(X5))"), Far: 3}
	more := trailChoice{Goals: []pending{{Goal: callOf("w(X9)")}}, Mark: 3, Vars: 10, Call: read("w(X9)"), Far: 1}
	t.Choices = append(slices.Insert(t.Choices, 2, far), more)
	return t
}

// waitTrail is solving that is ok at node 0 by richFarProg and waits.
func waitTrail() trailState {
	t := richTrail()
	last := &t.Choices[len(t.Choices)-1]
	last.Mark, last.Vars = len(t.Binds), t.Vars
	t.Status, t.Goals = impl.SlvWaits, nil
	return t
}

// answerTrail is solving that is ok at node 0 by richFarProg and has an answer.
func answerTrail() trailState {
	t := richTrail()
	t.Status, t.Goals, t.Out = impl.SlvAnswer, nil, answerState().Out
	return t
}

// TestWalksSeeWhatTheChapterSpeaksOf: calls that are far, outcomes of each kind that are waited for, and several choices that are far at once.
func TestWalksSeeWhatTheChapterSpeaksOf(t *testing.T) {
	t.Parallel()
	waits, deep, later, kinds, ended := 0, 0, 0, map[int]int{}, map[int]int{}
	for _, q := range spreadPosed(600) {
		for _, node := range farNodes() {
			all := trailsOf(q, node, 60)
			for k, s := range all {
				far := 0
				for _, c := range s.Choices {
					far += min(c.Far, 1)
				}
				deep += min(far/2, 1)
				want, n := impl.TrlWants(s)
				if n == 0 {
					continue
				}
				waits++
				later += min(n/2, 1)
				if k+1 < len(all) {
					o, _ := toldBy(q.p, want, n)
					kinds[o.Status]++
				}
			}
			ended[all[len(all)-1].Status]++
		}
	}
	if waits < 3000 || deep < 400 || later < 1000 {
		t.Errorf("only %d wait, %d with two far choices, %d for a later outcome", waits, deep, later)
	}
	for status, least := range map[int]int{impl.SlvAnswer: 1000, impl.SlvNone: 1000, impl.SlvBig: 5, impl.SlvWrong: 30} {
		if kinds[status] < least || ended[status] < least && status != impl.SlvAnswer {
			t.Errorf("of %d only %d are told, and %d end so", status, kinds[status], ended[status])
		}
	}
	for what, s := range map[string]trailState{"rich": richTrail(), "waiting": waitTrail(), "answered": answerTrail()} {
		if !plainTrailOk(richFarProg(), 0, s) {
			t.Errorf("%s is not ok: %v", what, s)
		}
	}
}

// atNode names a node in a message.
func atNode(node int) string { return "at node " + strconv.Itoa(node) }
