package tests

import (
	"math"
	"math/rand/v2"
	"slices"
	"testing"

	"loop.example/catechist/impl"
)

// TestOutcomesComeOneByOne: promise 29.
func TestOutcomesComeOneByOne(t *testing.T) {
	longer := 0
	for _, q := range somePosed(500) {
		all, _ := impl.SlvOuts(q.p, q.top, 9, 150)
		for k, o := range all {
			if !impl.OutOk(q.top, o) || o.Status != impl.SlvAnswer && k != len(all)-1 {
				t.Errorf("%v: %s", q, showOuts(all))
			}
		}
		was := 0
		for _, fuel := range []int{1, 2, 5, 20, 80, 150} {
			outs, steps := impl.SlvOuts(q.p, q.top, 9, fuel)
			if len(outs) > len(all) || !sameOuts(outs, all[:len(outs)]) || len(outs) < was || steps > fuel || steps < fuel && !ends(outs) && len(outs) < 9 {
				t.Errorf("%v: by %d steps %s in %d, and then %s", q, fuel, showOuts(outs), steps, showOuts(all))
			}
			was = len(outs)
		}
		before := 0
		for most := range 10 {
			outs, steps := impl.SlvOuts(q.p, q.top, most, 150)
			if !sameOuts(outs, all[:min(most, len(all))]) || steps < before || most == 0 && steps != 0 {
				t.Errorf("%v: %d at most are %s in %d", q, most, showOuts(outs), steps)
			}
			before = steps
		}
		longer += min(len(all)/2, 1)
	}
	if longer < 150 {
		t.Errorf("only %d have several outcomes", longer)
	}
}

// TestMostAtTheEdges: none, one, and more than there are.
func TestMostAtTheEdges(t *testing.T) {
	p := program("e(a)", "e(b)")
	for _, one := range []struct {
		most, fuel int
		want       string
		steps      int
	}{
		{math.MinInt, 100, "", 0}, {-1, 100, "", 0}, {0, 100, "", 0}, {0, impl.SlvFuel, "", 0}, {1, 100, "e(a); ", 3}, {1, 3, "e(a); ", 3}, {1, 2, "", 2}, {2, 100, "e(a); e(b); ", 6}, {2, 5, "e(a); ", 5},
		{3, 6, "e(a); e(b); ", 6}, {3, 7, "e(a); e(b); none; ", 7}, {4, 100, "e(a); e(b); none; ", 7}, {math.MaxInt, impl.SlvFuel, "e(a); e(b); none; ", 7}, {9, 1, "", 1},
	} {
		if got, steps := written(p, "e(X0)", one.most, one.fuel); got != one.want || steps != one.steps {
			t.Errorf("%d by %d: %s in %d, want %s in %d", one.most, one.fuel, got, steps, one.want, one.steps)
		}
	}
}

// plainFacts is, fact by fact, what a question is with its head; and then how that ends.
func plainFacts(p prog, top []cell) []outcome {
	var outs []outcome
	for _, c := range p.Clauses {
		if c.Head[0] != top[0] {
			continue
		}
		s, how := impl.SubUnify(nil, top, impl.TrmShift(c.Head, len(impl.TrmFree(top))))
		if how == impl.SubBig {
			return append(outs, outcome{Status: impl.SlvBig})
		}
		if how == impl.SubDone {
			full, _ := impl.SubFull(s, top)
			outs = append(outs, outcome{Status: impl.SlvAnswer, Term: impl.TrmCanon(full)})
		}
	}
	return append(outs, outcome{Status: impl.SlvNone})
}

// bigPosed are facts and questions of which one is at the edge of what is too big.
func bigPosed() []posed {
	facts := program("p(X0,X0)", "p(g(g(g(a))),X0)", "p(X0,h(a,X0,X0))", "p(b,c)", "p(f(X0,f(X0,f(X0,f(X0,X0)))),X1)")
	var all []posed
	for n := 1; n < impl.TrmMost-2; n++ {
		all = append(all, posed{facts, slices.Concat(places(name("p", 2), variable(0)), chain(n))})
		row := places(name("p", 2))
		for range n / 2 {
			row = append(row, name("f", 2), variable(0))
		}
		all = append(all, posed{facts, append(row, variable(0), variable(0))}, posed{facts, append(slices.Clone(row), variable(1), variable(0))})
	}
	var ok []posed
	for _, q := range all {
		if q.top = plainCanon(q.top); plainQuestion(q.top) {
			ok = append(ok, q)
		}
	}
	return ok
}

// TestOfFactsAnswersAreThoseThatFit: promise 30.
func TestOfFactsAnswersAreThoseThatFit(t *testing.T) {
	r, all := steady(), bigPosed()
	for range 3000 {
		all = append(all, posed{smallFacts(r, impl.PrgClauses), smallQuestion(r)})
	}
	seen, several := map[int]int{}, 0
	for _, q := range all {
		want := plainFacts(q.p, q.top)
		outs, steps := impl.SlvOuts(q.p, q.top, 100, 200)
		if !sameOuts(outs, want) {
			t.Errorf("%v: %s, want %s", q, showOuts(outs), showOuts(want))
		}
		// Each answer takes three steps: its clause, its end, and to tell it; then one more finds that there is none.
		if n := len(answersOf(want)); lastStatus(want) == impl.SlvNone && steps != 3*n+1 {
			t.Errorf("%v: %d answers in %d steps", q, n, steps)
		}
		seen[lastStatus(outs)]++
		several += min(len(outs)/3, 1)
	}
	if seen[impl.SlvNone] < 2000 || seen[impl.SlvBig] < 10 || several < 500 {
		t.Errorf("only %d end with none, %d are too big, %d have several answers", seen[impl.SlvNone], seen[impl.SlvBig], several)
	}
}

// withClauses is a program with clauses behind all others.
func withClauses(p prog, more ...clause) prog {
	return prog{Clauses: slices.Concat(p.Clauses, more), Places: p.Places}
}

func callGoalOf(t []cell) goal { return goal{Kind: impl.GoalCall, A: t} }

// TestBehindACutThereIsNoOther: promise 31.
func TestBehindACutThereIsNoOther(t *testing.T) {
	r, seen := steady(), map[int]int{}
	all := handPosed()
	for range 2500 {
		all = append(all, posed{smallProg(r, impl.PrgClauses-1, true), smallQuestion(r)})
	}
	for _, q := range all {
		first, _ := impl.SlvOuts(q.p, q.top, 1, 150)
		if len(q.p.Clauses) == impl.PrgClauses || len(q.top) >= impl.PrgCells || len(first) == 0 {
			continue
		}
		seen[first[0].Status]++
		if len(first[0].Term) == impl.TrmMost {
			t.Fatalf("%v: %s has no room for a name around it", q, showOuts(first))
		}
		for _, head := range [][]cell{places(name("w", 0)), append(places(name("w", 1)), q.top...)} {
			p := withClauses(q.p, clause{Head: head, Body: []goal{callGoalOf(q.top), cutHere()}})
			want := first
			if first[0].Status == impl.SlvAnswer {
				answer := head
				if len(head) > 1 {
					answer = append(head[:1:1], first[0].Term...)
				}
				want = []outcome{{Status: impl.SlvAnswer, Term: answer}, {Status: impl.SlvNone}}
			}
			if outs, _ := impl.SlvOuts(p, head, 9, 200); !sameOuts(outs, want) {
				t.Errorf("%v: behind a cut %s, want %s", q, showOuts(outs), showOuts(want))
			}
		}
	}
	if seen[impl.SlvAnswer] < 500 || seen[impl.SlvNone] < 300 || seen[impl.SlvBig] < 2 || seen[impl.SlvWrong] < 30 {
		t.Errorf("only these are seen: %v", seen)
	}
}

// TestWhereCallsAreDoneMakesNoDifference: promise 32.
func TestWhereCallsAreDoneMakesNoDifference(t *testing.T) {
	placed := 0
	for k, q := range somePosed(1000) {
		outs, steps := impl.SlvOuts(q.p, q.top, 9, 100)
		alone, stepsAlone := impl.SlvOuts(impl.PrgAlone(q.p), q.top, 9, 100)
		if !sameOuts(outs, alone) || steps != stepsAlone {
			t.Errorf("%v: %s, alone %s", q, showOuts(outs), showOuts(alone))
		}
		other := prog{Clauses: q.p.Clauses, Places: madePlaces(rand.New(rand.NewPCG(uint64(k), 3)), k%7)}
		if got, n := impl.SlvOuts(other, q.top, 9, 100); !sameOuts(outs, got) || n != steps {
			t.Errorf("%v: at other nodes %s", q, showOuts(got))
		}
		placed += min(len(q.p.Places), 1)
	}
	if placed < 300 {
		t.Errorf("only %d tell nodes", placed)
	}
}

// TestAnswerWithoutVariablesHolds: promise 33.
func TestAnswerWithoutVariablesHolds(t *testing.T) {
	r := steady()
	all := handPosed()
	for range 4000 {
		all = append(all, posed{smallProg(r, impl.PrgClauses, false), smallQuestion(r)})
	}
	held, wider := 0, 0
	for _, q := range all {
		if slices.ContainsFunc(q.p.Clauses, func(c clause) bool {
			return slices.ContainsFunc(c.Body, func(g goal) bool { return g.Kind == impl.GoalCut })
		}) {
			continue
		}
		outs, _ := impl.SlvOuts(q.p, q.top, 9, 150)
		for _, answer := range answersOf(outs) {
			if len(plainFree(answer)) > 0 {
				continue
			}
			first, _ := impl.SlvOuts(q.p, answer, 1, 300)
			if lastStatus(first) == impl.SlvBig {
				continue
			}
			held++
			wider += min(len(plainFree(q.top)), 1)
			if !sameTerms(answersOf(first), [][]cell{answer}) {
				t.Errorf("%v: %s, asked, is %s", q, impl.TrmText(answer), showOuts(first))
			}
		}
	}
	if held < 1000 || wider < 500 {
		t.Errorf("only %d answers hold, %d of a question with variables", held, wider)
	}
}

// TestThatTwoTermsAreTheSame: promise 69.
func TestThatTwoTermsAreTheSame(t *testing.T) {
	p := program("z", "w(X0,X1) if X0 = X1", "z(a)")
	var seen tried
	for _, q := range someAsked() {
		top := impl.TrmCanon(slices.Concat(places(name("w", 2)), q.a, q.b))
		if !impl.TrmOk(top) {
			continue
		}
		s, how := impl.SubUnify(nil, q.a, q.b)
		full, fits := impl.SubFull(s, append(places(name("w", 2)), append(slices.Clone(q.a), q.b...)...))
		want := []outcome{{Status: impl.SlvNone}}
		switch {
		case how == impl.SubBig || how == impl.SubDone && !fits:
			how = impl.SubBig
			want = []outcome{{Status: impl.SlvBig}}
		case how == impl.SubDone:
			want = []outcome{{Status: impl.SlvAnswer, Term: impl.TrmCanon(full)}, {Status: impl.SlvNone}}
		}
		seen.count(how)
		if outs, _ := impl.SlvOuts(p, top, 9, 50); !sameOuts(outs, want) {
			t.Errorf("%s: %s, want %s", impl.TrmText(top), showOuts(outs), showOuts(want))
		}
	}
	seen.atLeast(t, 1000, 1000, 20)
}

// TestNumbersAreReckonedWith: promise 70.
func TestNumbersAreReckonedWith(t *testing.T) {
	p := program("w(X0,X1) if X0 < X1", "v(X0,X1,X2) if X0 + X1 = X2")
	numbers := []int{-impl.TrmNums, -impl.TrmNums + 1, -5000, -7, -1, 0, 1, 2, 4999, 5000, 5001, impl.TrmNums - 1, impl.TrmNums}
	for _, a := range numbers {
		for _, b := range numbers {
			top := places(name("w", 2), number(a), number(b))
			want := []outcome{{Status: impl.SlvNone}}
			if a < b {
				want = []outcome{{Status: impl.SlvAnswer, Term: top}, {Status: impl.SlvNone}}
			}
			if outs, _ := impl.SlvOuts(p, top, 9, 50); !sameOuts(outs, want) {
				t.Errorf("%d < %d: %s", a, b, showOuts(outs))
			}
			for _, c := range []cell{variable(0), number(0), name("a", 0), number(max(min(a+b, impl.TrmNums), -impl.TrmNums))} {
				top := places(name("v", 3), number(a), number(b), c)
				sum := places(name("v", 3), number(a), number(b), number(a+b))
				want := []outcome{{Status: impl.SlvNone}}
				switch {
				case a+b > impl.TrmNums || a+b < -impl.TrmNums:
					want = []outcome{{Status: impl.SlvWrong}}
				case c.Kind == impl.TrmVar || c == number(a+b):
					want = []outcome{{Status: impl.SlvAnswer, Term: sum}, {Status: impl.SlvNone}}
				}
				if outs, _ := impl.SlvOuts(p, top, 9, 50); !sameOuts(outs, want) {
					t.Errorf("%d + %d = %v: %s", a, b, c, showOuts(outs))
				}
			}
		}
	}
	for _, x := range []string{"X0", "a", "g(1)", "f(X0,2)"} {
		for _, question := range []string{"w(" + x + ",1)", "w(1," + x + ")", "w(" + x + "," + x + ")", "v(" + x + ",1,2)", "v(1," + x + ",2)", "v(" + x + "," + x + "," + x + ")"} {
			if got, _ := written(p, question, 9, 50); got != "wrong; " {
				t.Errorf("%s: %s", question, got)
			}
		}
	}
}

// TestOfWhatNoClauseIsAbout: promise 71.
func TestOfWhatNoClauseIsAbout(t *testing.T) {
	tried := 0
	for _, q := range somePosed(300) {
		for _, top := range [][]cell{read("zz"), read("p"), read("p(X0,X1,X2)"), read("q"), read("a"), read("r(X0)"), chain(impl.TrmMost), q.top} {
			if slices.ContainsFunc(q.p.Clauses, func(c clause) bool { return c.Head[0] == top[0] }) {
				continue
			}
			tried++
			outs, steps := impl.SlvOuts(q.p, top, 9, 1)
			if !sameOuts(outs, []outcome{{Status: impl.SlvNone}}) || steps != 1 {
				t.Errorf("%v of %v: %s in %d", top, q.p, showOuts(outs), steps)
			}
		}
	}
	if tried < 1000 {
		t.Errorf("only %d are tried", tried)
	}
}

// shiftedClause is a clause with all variables one on; and whether they may be there.
func shiftedClause(c clause) (clause, bool) {
	on := func(t []cell) []cell { return turned(t, func(v int) int { return v + 1 }) }
	other := clause{Head: on(c.Head)}
	for _, g := range c.Body {
		other.Body = append(other.Body, goal{Kind: g.Kind, A: on(g.A), B: on(g.B), C: on(g.C)})
	}
	return other, plainClauseOk(other)
}

// TestHowClausesAreNumberedMakesNoDifference: promise 72.
func TestHowClausesAreNumberedMakesNoDifference(t *testing.T) {
	shifted := 0
	for _, q := range somePosed(500) {
		outs, steps := impl.SlvOuts(q.p, q.top, 9, 120)
		for k, c := range q.p.Clauses {
			other, ok := shiftedClause(c)
			for on := 1; ok && on < impl.PrgFree; on++ {
				p := withClauses(q.p)
				p.Clauses[k] = other
				got, n := impl.SlvOuts(p, q.top, 9, 120)
				shifted++
				if !sameOuts(got, outs) || n != steps {
					t.Errorf("%v: %s in %d, with clause %d %d on %s in %d", q, showOuts(outs), steps, k, on, showOuts(got), n)
				}
				other, ok = shiftedClause(other)
			}
		}
	}
	if shifted < 3000 {
		t.Errorf("only %d are numbered otherwise", shifted)
	}
}

// withHeads is a program with some of its clauses now of a name that no goal calls, and a question of that name.
func withHeads(r *rand.Rand, most int, cuts bool) posed {
	p := smallProg(r, most, cuts)
	for k := range p.Clauses {
		if r.IntN(3) == 0 {
			p.Clauses[k] = smallClause(r, name("w", 2), cuts)
		}
	}
	return posed{p, plainCanon(smallCall(r, name("w", 2), 3))}
}

// TestClauseMoreBehindAllTellsMoreBehindAll: promise 73.
func TestClauseMoreBehindAllTellsMoreBehindAll(t *testing.T) {
	r := steady()
	more, some := 0, 0
	for range 2500 {
		q := withHeads(r, impl.PrgClauses-1, true)
		before, _ := impl.SlvOuts(q.p, q.top, 9, 120)
		p := withClauses(q.p, smallClause(r, name("w", 2), true))
		after, _ := impl.SlvOuts(p, q.top, 20, 120)
		was, is := answersOf(before), answersOf(after)
		if len(is) < len(was) || !sameTerms(is[:len(was)], was) {
			t.Errorf("%v: %s, and then %s", q, showOuts(before), showOuts(after))
		}
		some += min(len(was), 1)
		if len(is) > len(was) && len(was) > 0 && ends(before) {
			more++
		}
	}
	if some < 300 || more < 100 {
		t.Errorf("only %d have answers, %d more then", some, more)
	}
}

// isCalled says whether the question or a goal calls a name with so many arguments.
func isCalled(q posed, head cell) bool {
	return q.top[0] == head || slices.ContainsFunc(q.p.Clauses, func(c clause) bool {
		return slices.ContainsFunc(c.Body, func(g goal) bool { return g.Kind == impl.GoalCall && g.A[0] == head })
	})
}

// TestWhatNobodyCallsMakesNoDifference: promise 74.
func TestWhatNobodyCallsMakesNoDifference(t *testing.T) {
	r, tried := steady(), 0
	for _, q := range somePosed(800) {
		if len(q.p.Clauses) == impl.PrgClauses {
			continue
		}
		outs, steps := impl.SlvOuts(q.p, q.top, 9, 120)
		for _, head := range append(predicates(), name("w", 2), name(q.top[0].Name, 3), name("zz", 0)) {
			if isCalled(q, head) {
				continue
			}
			tried++
			p := withClauses(q.p, smallClause(r, head, true))
			if got, n := impl.SlvOuts(p, q.top, 9, 120); !sameOuts(got, outs) || n != steps {
				t.Errorf("%v: %s in %d, and with %v %s in %d", q, showOuts(outs), steps, head, showOuts(got), n)
			}
		}
	}
	if tried < 2000 {
		t.Errorf("only %d are tried", tried)
	}
}

// firstFit is the first clause whose head fits a question; -1, if there is none, or that is too big.
func firstFit(p prog, top []cell) int {
	return slices.IndexFunc(p.Clauses, func(c clause) bool {
		_, how := impl.SubUnify(nil, top, impl.TrmShift(c.Head, len(impl.TrmFree(top))))
		return how == impl.SubDone
	})
}

// TestCutAheadOfAllLeavesOneClause: promise 75.
func TestCutAheadOfAllLeavesOneClause(t *testing.T) {
	r := steady()
	fits, fewer := 0, 0
	for range 2500 {
		q := withHeads(r, impl.PrgClauses, true)
		var cut, alone prog
		fit := firstFit(q.p, q.top)
		for k, c := range q.p.Clauses {
			if c.Head[0] != q.top[0] {
				cut.Clauses, alone.Clauses = append(cut.Clauses, c), append(alone.Clauses, c)
				continue
			}
			cut.Clauses = append(cut.Clauses, clause{Head: c.Head, Body: append([]goal{cutHere()}, c.Body...)})
			if k == fit {
				alone.Clauses = append(alone.Clauses, c)
			}
		}
		if !plainProgOk(cut) {
			t.Fatalf("not ok: %v", cut)
		}
		want, steps := impl.SlvOuts(alone, q.top, 9, 120)
		outs, cutSteps := impl.SlvOuts(cut, q.top, 9, 121)
		if fit >= 0 {
			fits++
			steps++
		}
		if !sameOuts(outs, want) || cutSteps != steps {
			t.Errorf("%v: with cuts %s in %d, want %s in %d", q, showOuts(outs), cutSteps, showOuts(want), steps)
		}
		if all, _ := impl.SlvOuts(q.p, q.top, 9, 120); len(all) > len(outs) {
			fewer++
		}
	}
	if fits < 500 || fewer < 100 {
		t.Errorf("only %d fit, %d have fewer answers", fits, fewer)
	}
}

// TestQuestionWithoutVariablesIsItsOwnAnswer: promise 89.
func TestQuestionWithoutVariablesIsItsOwnAnswer(t *testing.T) {
	r, all := steady(), handPosed()
	for range 2500 {
		all = append(all, posed{smallProg(r, impl.PrgClauses, true), groundQuestion(r)})
	}
	answers := 0
	for _, q := range all {
		if len(plainFree(q.top)) > 0 {
			continue
		}
		outs, _ := impl.SlvOuts(q.p, q.top, 9, 120)
		for _, answer := range answersOf(outs) {
			answers++
			if !slices.Equal(answer, q.top) {
				t.Errorf("%v: %s", q, showOuts(outs))
			}
		}
	}
	if answers < 1000 {
		t.Errorf("only %d answers", answers)
	}
}

// TestWhatIsToldTwiceIsAnsweredTwice: promise 90.
func TestWhatIsToldTwiceIsAnsweredTwice(t *testing.T) {
	r, answers := steady(), 0
	for range 2000 {
		q := posed{smallFacts(r, impl.PrgClauses/2), smallQuestion(r)}
		var twice prog
		for _, c := range q.p.Clauses {
			twice.Clauses = append(twice.Clauses, c, c)
		}
		outs, _ := impl.SlvOuts(q.p, q.top, 50, 200)
		var want []outcome
		for _, o := range outs {
			if o.Status == impl.SlvAnswer {
				answers++
				want = append(want, o)
			}
			want = append(want, o)
		}
		if got, _ := impl.SlvOuts(twice, q.top, 50, 200); !sameOuts(got, want) {
			t.Errorf("%v: %s, and told twice %s", q, showOuts(outs), showOuts(got))
		}
	}
	if answers < 1000 {
		t.Errorf("only %d answers", answers)
	}
}

// TestTwoGoalsOfFactsAreEachWithEach: promise 91.
func TestTwoGoalsOfFactsAreEachWithEach(t *testing.T) {
	r, many := steady(), 0
	for range 2500 {
		p := smallFacts(r, impl.PrgClauses-1)
		first := smallQuestion(r)
		second := smallQuestion(r)
		on := len(plainFree(first))
		other := turned(second, func(v int) int { return v + on })
		both := slices.Concat(places(name("w", 2)), first, other)
		w := clause{Head: both, Body: []goal{callGoalOf(first), callGoalOf(other)}}
		if !plainClauseOk(w) {
			t.Fatalf("not ok: %v", w)
		}
		firsts, _ := impl.SlvOuts(p, first, 50, 200)
		seconds, _ := impl.SlvOuts(p, second, 50, 200)
		outs, _ := impl.SlvOuts(withClauses(p, w), both, 500, impl.SlvFuel)
		var want []outcome
		for _, x := range answersOf(firsts) {
			for _, y := range answersOf(seconds) {
				free := len(plainFree(x))
				want = append(want, outcome{Status: impl.SlvAnswer, Term: slices.Concat(places(name("w", 2)), x, turned(y, func(v int) int { return v + free }))})
			}
		}
		want = append(want, outcome{Status: impl.SlvNone})
		if !sameOuts(outs, want) {
			t.Errorf("%v of %v: %s, want %s", both, p, showOuts(outs), showOuts(want))
		}
		many += min((len(want)-1)/4, 1)
	}
	if many < 200 {
		t.Errorf("only %d have several of both", many)
	}
}
