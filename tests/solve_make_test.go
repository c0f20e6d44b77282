package tests

import (
	"math/rand/v2"
	"slices"
	"strconv"
	"testing"

	"loop.example/catechist/impl"
)

// program is the program of lines that are one.
func program(lines ...string) prog {
	p, wrong := impl.PrgParse(lines)
	if wrong != 0 {
		panic("no program: " + lines[wrong-1])
	}
	return p
}

// written is outcomes as they are written, and how many steps they took.
func written(p prog, question string, most, fuel int) (string, int) {
	outs, steps := impl.SlvOuts(p, read(question), most, fuel)
	return showOuts(outs), steps
}

// showOuts writes outcomes without asking the program what a question's outcomes are.
func showOuts(outs []outcome) string {
	words := map[int]string{impl.SlvNone: "none", impl.SlvBig: "too big", impl.SlvWrong: "wrong"}
	text := ""
	for _, o := range outs {
		word, ended := words[o.Status]
		switch {
		case o.Status == impl.SlvAnswer:
			text += impl.TrmText(o.Term) + "; "
		case ended && len(o.Term) == 0:
			text += word + "; "
		default:
			text += "status " + strconv.Itoa(o.Status) + "; "
		}
	}
	return text
}

// answersOf is the terms of those outcomes that are answers.
func answersOf(outs []outcome) [][]cell {
	var all [][]cell
	for _, o := range outs {
		if o.Status == impl.SlvAnswer {
			all = append(all, o.Term)
		}
	}
	return all
}

func sameTerms(a, b [][]cell) bool { return slices.EqualFunc(a, b, slices.Equal[[]cell]) }

func sameOuts(a, b []outcome) bool {
	return slices.EqualFunc(a, b, func(x, y outcome) bool { return x.Status == y.Status && slices.Equal(x.Term, y.Term) })
}

// lastStatus is how the last outcome stands; 0, if there is none.
func lastStatus(outs []outcome) int {
	if len(outs) == 0 {
		return 0
	}
	return outs[len(outs)-1].Status
}

// ends says whether all outcomes are told.
func ends(outs []outcome) bool { return plainEnded(lastStatus(outs)) }

// predicates are the few names that made programs call, by how many arguments they have.
func predicates() []cell { return places(name("r", 0), name("p", 1), name("q", 2), name("e", 2)) }

// smallArg is an argument of few places: what is a variable often fits, and what is a number can be reckoned with.
func smallArg(r *rand.Rand, vars int) []cell {
	switch r.IntN(8) {
	case 0:
		return places(name([]string{"a", "b"}[r.IntN(2)], 0))
	case 1, 2:
		return places(number(r.IntN(3)))
	case 3:
		return append(places(name("g", 1)), smallArg(r, vars)...)
	}
	if vars == 0 {
		return places(name("a", 0))
	}
	return places(variable(r.IntN(vars)))
}

// smallCall is a name with small arguments.
func smallCall(r *rand.Rand, head cell, vars int) []cell {
	t := places(head)
	for range head.N {
		arg := smallArg(r, vars)
		if len(arg) > 3 {
			arg = places(number(1))
		}
		t = append(t, arg...)
	}
	return t
}

func anyPredicate(r *rand.Rand) cell { return predicates()[r.IntN(len(predicates()))] }

// smallGoal is a goal of small terms; a cut, only if it may be one.
func smallGoal(r *rand.Rand, vars int, cuts bool) goal {
	arg := func() []cell { return smallArg(r, vars) }
	few := func() []cell {
		if r.IntN(6) == 0 {
			return arg()
		}
		return places(number(r.IntN(3)))
	}
	switch k := r.IntN(12); {
	case k == 0 && cuts, k == 1 && cuts:
		return cutHere()
	case k <= 3:
		return goal{Kind: impl.GoalSame, A: arg(), B: arg()}
	case k == 4:
		return goal{Kind: impl.GoalLess, A: few(), B: few()}
	case k == 5:
		return goal{Kind: impl.GoalPlus, A: few(), B: few(), C: arg()}
	}
	return goal{Kind: impl.GoalCall, A: smallCall(r, anyPredicate(r), vars)}
}

// smallClause is a clause of a name; one in two has no goals.
func smallClause(r *rand.Rand, head cell, cuts bool) clause {
	vars := 1 + r.IntN(4)
	c := clause{Head: smallCall(r, head, vars)}
	if r.IntN(2) == 0 {
		return c
	}
	for range 1 + r.IntN(3) {
		c.Body = append(c.Body, smallGoal(r, vars, cuts))
	}
	return c
}

// smallProg is a program of at most so many clauses, whose calls often have clauses that fit.
func smallProg(r *rand.Rand, most int, cuts bool) prog {
	var p prog
	for range 2 + r.IntN(most-1) {
		p.Clauses = append(p.Clauses, smallClause(r, anyPredicate(r), cuts))
	}
	if r.IntN(2) == 0 {
		p.Places = []told{placed("e", 2, 1), placed("p", 1, 2)}
	}
	return p
}

// smallFacts is a program of at most so many facts.
func smallFacts(r *rand.Rand, most int) prog {
	var p prog
	for range 1 + r.IntN(most) {
		p.Clauses = append(p.Clauses, clause{Head: smallCall(r, anyPredicate(r), 3)})
	}
	return p
}

func smallQuestion(r *rand.Rand) []cell { return plainCanon(smallCall(r, anyPredicate(r), 3)) }

// groundQuestion has no variables.
func groundQuestion(r *rand.Rand) []cell { return smallCall(r, anyPredicate(r), 0) }

// posed is a program and a question.
type posed struct {
	p   prog
	top []cell
}

func (q posed) String() string {
	text := impl.TrmText(q.top) + " of "
	for _, line := range plainLines(q.p) {
		text += line + "; "
	}
	return text
}

// handPosed are programs and questions written by hand, that end in each way, and such as do not.
func handPosed() []posed {
	paths := program("e(a,b)", "e(b,c)", "e(a,c)", "p(X0,X1) if e(X0,X1)", "p(X0,X2) if e(X0,X1) and p(X1,X2)", "q(X0) if p(a,X0) and !", "q(z)")
	ring := program("at 1 e 2", "at 2 p 2", "e(a,b)", "e(b,a)", "p(X0,X1) if e(X0,X1)", "p(X0,X2) if e(X0,X1) and p(X1,X2)")
	lists := program("app(nil,X0,X0)", "app(c(X0,X1),X2,c(X0,X3)) if app(X1,X2,X3)", "len(nil,0)", "len(c(X0,X1),X3) if len(X1,X2) and X2 + 1 = X3")
	count := program("n(X0,X0)", "n(X0,X2) if X0 < 5 and X0 + 1 = X1 and n(X1,X2)", "loop(X0) if loop(X0)", "grow(X0) if grow(f(X0,X0))", "deep(X0) if deep(g(X0))")
	cuts := program("m(X0) if k(X0) and ! and j", "m(7)", "k(1)", "k(2)", "j if X0 = 3 and X0 < 2", "j", "o(X0) if k(X0) and m(X0)", "o(X0) if k(X1) and ! and k(X0)", "o(9)")
	sums := program("s(X0,X1,X2) if X0 + X1 = X2", "l(X0,X1) if X0 < X1", "t(X0) if X1 = X0 and X1 < 3", "u if X0 < 1", "v(X0) if 1 + X0 = a")
	var all []posed
	for _, one := range []struct {
		p         prog
		questions []string
	}{
		{paths, []string{"p(a,X0)", "p(X0,c)", "p(X0,X1)", "p(X0,X0)", "p(c,X0)", "q(X0)", "q(z)", "q(b)", "z", "p"}},
		{ring, []string{"p(a,X0)", "p(X0,X1)", "p(a,c)", "e(X0,X1)"}},
		{lists, []string{"app(X0,X1,c(1,c(2,nil)))", "app(c(a,nil),c(b,nil),X0)", "len(c(a,c(X0,nil)),X1)", "len(X0,X1)", "app(X0,X1,X2)", "app(X0,X0,X0)"}},
		{count, []string{"n(0,X0)", "n(9,X0)", "n(a,X0)", "n(X0,X1)", "loop(a)", "loop(X0)", "grow(X0)", "grow(a)", "deep(X0)"}},
		{cuts, []string{"m(X0)", "m(1)", "m(2)", "m(7)", "o(X0)", "o(9)", "o(2)", "k(X0)", "j"}},
		{sums, []string{"s(1,2,X0)", "s(9999,1,X0)", "s(-9999,-1,X0)", "s(9998,1,X0)", "s(1,2,4)", "s(X0,1,2)", "s(1,X0,2)", "s(a,1,X0)", "l(1,2)", "l(2,1)", "l(1,1)", "l(X0,1)", "t(2)", "t(3)", "t(X0)", "t(a)", "u", "v(1)", "v(9999)", "v(a)"}},
	} {
		for _, q := range one.questions {
			all = append(all, posed{one.p, plainCanon(read(q))})
		}
	}
	return all
}

// somePosed are those by hand, and so many made ones.
func somePosed(made int) []posed {
	r, all := steady(), handPosed()
	for range made {
		all = append(all, posed{smallProg(r, impl.PrgClauses, true), smallQuestion(r)})
	}
	return all
}

// statesOf is how solving stands behind each of so many steps.
func statesOf(q posed, steps int) []state {
	all := []state{impl.SlvNew(q.top)}
	for range steps {
		next := impl.SlvStep(q.p, all[len(all)-1])
		all = append(all, next)
		if plainEnded(next.Status) {
			break
		}
	}
	return all
}

// TestPosedEndInEachWay: the tests of the chapter see programs that end in each way, and answers.
func TestPosedEndInEachWay(t *testing.T) {
	seen, answers, several := map[int]int{}, 0, 0
	for _, q := range somePosed(2000) {
		if !plainProgOk(q.p) || !plainQuestion(q.top) {
			t.Errorf("not ok: %v", q)
		}
		outs, _ := impl.SlvOuts(q.p, q.top, 20, 200)
		seen[lastStatus(outs)]++
		answers += min(len(answersOf(outs)), 1)
		several += min(len(answersOf(outs))/2, 1)
	}
	for status, least := range map[int]int{0: 20, impl.SlvNone: 500, impl.SlvBig: 5, impl.SlvWrong: 50} {
		if seen[status] < least {
			t.Errorf("only %d end with %d", seen[status], status)
		}
	}
	if answers < 400 || several < 200 {
		t.Errorf("only %d have an answer, %d several", answers, several)
	}
}
