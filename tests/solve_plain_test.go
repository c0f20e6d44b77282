package tests

import (
	"slices"

	"loop.example/catechist/impl"
)

// What the chapter on solving says, plainly: lists are copied, what is ok is asked of all of it at each step, and going back is a call of its own.

type (
	state   = impl.SlvState
	pending = impl.SlvGoal
	choice  = impl.SlvChoice
	outcome = impl.SlvOut
)

func plainQuestion(t []cell) bool {
	return impl.TrmOk(t) && t[0].Kind == impl.TrmFun && slices.Equal(plainCanon(t), t)
}

// plainCanon numbers each variable by its place among those that come first.
func plainCanon(t []cell) []cell {
	free := plainFree(t)
	return turned(t, func(v int) int { return slices.Index(free, v) })
}

func plainNew(top []cell) state {
	if !plainQuestion(top) {
		return state{}
	}
	return state{Status: impl.SlvGoes, Goals: []pending{{Goal: goal{Kind: impl.GoalCall, A: top}}}, Vars: len(plainFree(top)), Top: top}
}

func plainEnded(status int) bool {
	return status == impl.SlvNone || status == impl.SlvBig || status == impl.SlvWrong
}

func plainBelow(t []cell, vars int) bool {
	return !slices.ContainsFunc(t, func(c cell) bool { return c.Kind == impl.TrmVar && c.N >= vars })
}

// plainGoalsOk says whether goals are ok with so many variables and choices.
func plainGoalsOk(goals []pending, vars, choices int) bool {
	for _, one := range goals {
		g := one.Goal
		if g.Kind < impl.GoalCall || g.Kind > impl.GoalExit {
			return false
		}
		for k, part := range [][]cell{g.A, g.B, g.C} {
			has := termsOf(g.Kind)>>k&1 == 1
			if has && (!impl.TrmOk(part) || !plainBelow(part, vars)) || !has && len(part) > 0 {
				return false
			}
		}
		if (g.Kind == impl.GoalCall || g.Kind == impl.GoalExit) && g.A[0].Kind != impl.TrmFun {
			return false
		}
		if one.Cut < 0 || one.Cut > choices || one.Cut != 0 && g.Kind != impl.GoalCut {
			return false
		}
	}
	return true
}

// plainPartOk says whether goals, bindings and the next variable, of solving or of a choice behind so many others, are ok.
func plainPartOk(goals []pending, s []binding, vars, choices int) bool {
	if vars < 0 || vars > impl.TrmVars || !plainBindsOk(s) {
		return false
	}
	for _, b := range s {
		if b.Var >= vars || !plainBelow(b.Term, vars) {
			return false
		}
	}
	return plainGoalsOk(goals, vars, choices)
}

func plainIsClauseOf(p prog, k int, call []cell) bool {
	return k >= 0 && k < len(p.Clauses) && p.Clauses[k].Head[0] == call[0]
}

func plainChoicesOk(p prog, s state) bool {
	for k, c := range s.Choices {
		if !plainPartOk(c.Goals, c.Binds, c.Vars, k) || !impl.TrmOk(c.Call) || !plainBelow(c.Call, c.Vars) || !plainIsClauseOf(p, c.Next, c.Call) {
			return false
		}
		next, vars := s.Binds, s.Vars
		if k+1 < len(s.Choices) {
			next, vars = s.Choices[k+1].Binds, s.Choices[k+1].Vars
		}
		if len(c.Binds) > len(next) || !sameBinds(c.Binds, next[:len(c.Binds)]) || c.Vars > vars {
			return false
		}
	}
	return true
}

func plainSolvingOk(p prog, s state) bool {
	if !plainProgOk(p) || !plainQuestion(s.Top) {
		return false
	}
	if plainEnded(s.Status) {
		return sameValue(s, state{Status: s.Status, Top: s.Top})
	}
	if !plainPartOk(s.Goals, s.Binds, s.Vars, len(s.Choices)) || !plainChoicesOk(p, s) || !plainBelow(s.Top, s.Vars) {
		return false
	}
	full, fits := plainFull(s.Binds, s.Top)
	switch s.Status {
	case impl.SlvGoes:
		return len(s.Out) == 0
	case impl.SlvAnswer:
		return len(s.Goals) == 0 && fits && slices.Equal(s.Out, plainCanon(full))
	}
	return false
}

func plainEnd(s state, status int) state { return state{Status: status, Top: s.Top} }

func plainStep(p prog, s state) state {
	if !plainSolvingOk(p, s) {
		return state{}
	}
	switch {
	case plainEnded(s.Status):
		return s
	case s.Status == impl.SlvAnswer:
		return plainBack(p, s)
	case len(s.Goals) > 0:
		return plainDo(p, s)
	}
	full, fits := plainFull(s.Binds, s.Top)
	if !fits {
		return plainEnd(s, impl.SlvBig)
	}
	s.Status, s.Out = impl.SlvAnswer, plainCanon(full)
	return s
}

// plainDo does the first goal.
func plainDo(p prog, s state) state {
	first := s.Goals[0]
	g := first.Goal
	s.Goals = s.Goals[1:]
	switch g.Kind {
	case impl.GoalCall:
		full, fits := plainFull(s.Binds, g.A)
		if !fits {
			return plainEnd(s, impl.SlvBig)
		}
		return plainTry(p, s, full, 0)
	case impl.GoalSame:
		return plainMake(p, s, g.A, g.B)
	case impl.GoalCut:
		s.Choices = s.Choices[:first.Cut]
	case impl.GoalLess, impl.GoalPlus:
		x, y := plainNow(s.Binds, g.A)[0], plainNow(s.Binds, g.B)[0]
		sum := number(x.N + y.N)
		switch {
		case x.Kind != impl.TrmNum || y.Kind != impl.TrmNum:
			return plainEnd(s, impl.SlvWrong)
		case g.Kind == impl.GoalPlus && !impl.TrmOk(places(sum)):
			return plainEnd(s, impl.SlvWrong)
		case g.Kind == impl.GoalPlus:
			return plainMake(p, s, g.C, places(sum))
		case x.N >= y.N:
			return plainBack(p, s)
		}
	case impl.GoalExit:
		if _, fits := plainFull(s.Binds, g.A); !fits {
			return plainEnd(s, impl.SlvBig)
		}
	}
	return s
}

// plainMake does that two terms are the same.
func plainMake(p prog, s state, a, b []cell) state {
	then, how := plainUnify(s.Binds, a, b)
	switch how {
	case impl.SubApart:
		return plainBack(p, s)
	case impl.SubBig:
		return plainEnd(s, impl.SlvBig)
	}
	s.Binds = then
	return s
}

func plainBack(p prog, s state) state {
	n := len(s.Choices)
	if n == 0 {
		return plainEnd(s, impl.SlvNone)
	}
	last := s.Choices[n-1]
	return plainTry(p, state{Goals: last.Goals, Binds: last.Binds, Vars: last.Vars, Choices: s.Choices[:n-1], Top: s.Top}, last.Call, last.Next)
}

// plainFrom is the first clause from a place on that is one of a call's name; as many as there are, if there is none.
func plainFrom(p prog, call []cell, from int) int {
	for from < len(p.Clauses) && !plainIsClauseOf(p, from, call) {
		from++
	}
	return from
}

// plainTry tries a call from a clause on, with the goals of solving behind.
func plainTry(p prog, s state, call []cell, from int) state {
	at := plainFrom(p, call, from)
	if at == len(p.Clauses) {
		return plainBack(p, s)
	}
	if s.Vars > impl.TrmVars-impl.PrgFree {
		return plainEnd(s, impl.SlvBig)
	}
	on := func(t []cell) []cell { return turned(t, func(v int) int { return v + s.Vars }) }
	ahead := len(s.Choices)
	if next := plainFrom(p, call, at+1); next < len(p.Clauses) {
		s.Choices = append(slices.Clone(s.Choices), choice{Goals: s.Goals, Binds: s.Binds, Vars: s.Vars, Call: call, Next: next})
	}
	then, how := plainUnify(s.Binds, call, on(p.Clauses[at].Head))
	switch how {
	case impl.SubApart:
		return plainBack(p, s)
	case impl.SubBig:
		return plainEnd(s, impl.SlvBig)
	}
	var goals []pending
	for _, g := range p.Clauses[at].Body {
		one := pending{Goal: goal{Kind: g.Kind, A: on(g.A), B: on(g.B), C: on(g.C)}}
		if g.Kind == impl.GoalCut {
			one.Cut = ahead
		}
		goals = append(goals, one)
	}
	goals = append(goals, pending{Goal: goal{Kind: impl.GoalExit, A: call}})
	return state{Status: impl.SlvGoes, Goals: append(goals, s.Goals...), Binds: then, Vars: s.Vars + impl.PrgFree, Choices: s.Choices, Top: s.Top}
}

// plainRun does so many steps, each as long as it goes on.
func plainRun(p prog, s state, fuel int) state {
	if !plainSolvingOk(p, s) || fuel > impl.SlvFuel {
		return state{}
	}
	for k := 0; k < fuel && s.Status == impl.SlvGoes; k++ {
		s = plainStep(p, s)
	}
	return s
}

func plainOuts(p prog, top []cell, most, fuel int) ([]outcome, int) {
	if !plainProgOk(p) || !plainQuestion(top) || fuel < 1 || fuel > impl.SlvFuel {
		return nil, 0
	}
	var outs []outcome
	steps, s := 0, plainNew(top)
	for steps < fuel && len(outs) < most && !plainEnded(s.Status) {
		s = plainStep(p, s)
		steps++
		if s.Status != impl.SlvGoes {
			outs = append(outs, outcome{Status: s.Status, Term: s.Out})
		}
	}
	return outs, steps
}
