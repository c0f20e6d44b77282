package tests

import (
	"slices"

	"loop.example/catechist/impl"
)

// What the chapter on letting go says, plainly: lists are copied, what is ok is asked of all of it at each step, and going back is a call of its own.

type (
	trailState  = impl.TrlState
	trailChoice = impl.TrlChoice
)

func plainTrailNew(top []cell) trailState {
	s := plainNew(top)
	return trailState{Status: s.Status, Goals: s.Goals, Vars: s.Vars, Top: s.Top}
}

func plainView(s trailState) state {
	view := state{Status: s.Status, Goals: s.Goals, Binds: s.Binds, Vars: s.Vars, Top: s.Top, Out: s.Out}
	for _, c := range s.Choices {
		if c.Mark < 0 || c.Mark > len(s.Binds) {
			return state{}
		}
		view.Choices = append(view.Choices, choice{Goals: c.Goals, Binds: s.Binds[:c.Mark], Vars: c.Vars, Call: c.Call, Next: c.Next})
	}
	return view
}

func plainNodeOk(node int) bool { return node >= -1 && node < impl.PrgNodes }

// plainFar says whether a call is done at another node than that.
func plainFar(p prog, node int, call []cell) bool { return node != -1 && plainNode(p, call) != node }

func plainTrailChoicesOk(p prog, node int, s trailState) bool {
	for k, c := range s.Choices {
		mark, vars := len(s.Binds), s.Vars
		if k+1 < len(s.Choices) {
			mark, vars = s.Choices[k+1].Mark, s.Choices[k+1].Vars
		}
		if c.Mark < 0 || c.Mark > mark || mark > len(s.Binds) || c.Vars > vars {
			return false
		}
		if !plainPartOk(c.Goals, s.Binds[:c.Mark], c.Vars, k) || !impl.TrmOk(c.Call) || c.Call[0].Kind != impl.TrmFun || !plainBelow(c.Call, c.Vars) {
			return false
		}
		far := c.Far >= 1 && c.Far <= impl.SlvFuel && node != -1
		switch {
		case far && (c.Next != 0 || !plainFar(p, node, c.Call)):
			return false
		case !far && (c.Far != 0 || !plainIsClauseOf(p, c.Next, c.Call)):
			return false
		}
	}
	return true
}

func plainTrailOk(p prog, node int, s trailState) bool {
	if !plainProgOk(p) || !plainNodeOk(node) || !plainQuestion(s.Top) {
		return false
	}
	if plainEnded(s.Status) {
		return sameValue(s, trailState{Status: s.Status, Top: s.Top})
	}
	if !plainPartOk(s.Goals, s.Binds, s.Vars, len(s.Choices)) || !plainTrailChoicesOk(p, node, s) || !plainBelow(s.Top, s.Vars) {
		return false
	}
	full, fits := plainFull(s.Binds, s.Top)
	switch s.Status {
	case impl.SlvGoes:
		return len(s.Out) == 0
	case impl.SlvAnswer:
		return len(s.Goals) == 0 && fits && slices.Equal(s.Out, plainCanon(full))
	case impl.SlvWaits:
		if len(s.Choices) == 0 || len(s.Goals) > 0 || len(s.Out) > 0 {
			return false
		}
		last := s.Choices[len(s.Choices)-1]
		return last.Far > 0 && last.Mark == len(s.Binds) && last.Vars == s.Vars
	}
	return false
}

func plainTrailEnd(s trailState, status int) trailState {
	return trailState{Status: status, Top: s.Top}
}

func plainTrailStep(p prog, node int, s trailState) trailState {
	if !plainTrailOk(p, node, s) {
		return trailState{}
	}
	switch {
	case plainEnded(s.Status) || s.Status == impl.SlvWaits:
		return s
	case s.Status == impl.SlvAnswer:
		return plainTrailBack(p, node, s)
	case len(s.Goals) > 0:
		return plainTrailDo(p, node, s)
	}
	full, fits := plainFull(s.Binds, s.Top)
	if !fits {
		return plainTrailEnd(s, impl.SlvBig)
	}
	s.Status, s.Out = impl.SlvAnswer, plainCanon(full)
	return s
}

// plainTrailDo does the first goal.
func plainTrailDo(p prog, node int, s trailState) trailState {
	first := s.Goals[0]
	g := first.Goal
	s.Goals = s.Goals[1:]
	switch g.Kind {
	case impl.GoalCall:
		full, fits := plainFull(s.Binds, g.A)
		switch {
		case !fits:
			return plainTrailEnd(s, impl.SlvBig)
		case plainFar(p, node, full):
			more := trailChoice{Goals: s.Goals, Mark: len(s.Binds), Vars: s.Vars, Call: full, Far: 1}
			return trailState{Status: impl.SlvWaits, Binds: s.Binds, Vars: s.Vars, Choices: append(slices.Clone(s.Choices), more), Top: s.Top}
		}
		return plainTrailTry(p, node, s, full, 0)
	case impl.GoalSame:
		return plainTrailMake(p, node, s, g.A, g.B)
	case impl.GoalCut:
		s.Choices = s.Choices[:first.Cut]
	case impl.GoalLess, impl.GoalPlus:
		x, y := plainNow(s.Binds, g.A)[0], plainNow(s.Binds, g.B)[0]
		sum := number(x.N + y.N)
		switch {
		case x.Kind != impl.TrmNum || y.Kind != impl.TrmNum:
			return plainTrailEnd(s, impl.SlvWrong)
		case g.Kind == impl.GoalPlus && !impl.TrmOk(places(sum)):
			return plainTrailEnd(s, impl.SlvWrong)
		case g.Kind == impl.GoalPlus:
			return plainTrailMake(p, node, s, g.C, places(sum))
		case x.N >= y.N:
			return plainTrailBack(p, node, s)
		}
	case impl.GoalExit:
		if _, fits := plainFull(s.Binds, g.A); !fits {
			return plainTrailEnd(s, impl.SlvBig)
		}
	}
	return s
}

// plainTrailMake does that two terms are the same.
func plainTrailMake(p prog, node int, s trailState, a, b []cell) trailState {
	then, how := plainUnify(s.Binds, a, b)
	switch how {
	case impl.SubApart:
		return plainTrailBack(p, node, s)
	case impl.SubBig:
		return plainTrailEnd(s, impl.SlvBig)
	}
	s.Binds = then
	return s
}

func plainTrailBack(p prog, node int, s trailState) trailState {
	n := len(s.Choices)
	if n == 0 {
		return plainTrailEnd(s, impl.SlvNone)
	}
	last := s.Choices[n-1]
	back := trailState{Binds: s.Binds[:last.Mark], Vars: last.Vars, Top: s.Top}
	if last.Far > 0 {
		back.Status, back.Choices = impl.SlvWaits, s.Choices
		return back
	}
	back.Goals, back.Choices = last.Goals, s.Choices[:n-1]
	return plainTrailTry(p, node, back, last.Call, last.Next)
}

// plainTrailTry tries a call from a clause on, with the goals of solving behind.
func plainTrailTry(p prog, node int, s trailState, call []cell, from int) trailState {
	at := plainFrom(p, call, from)
	if at == len(p.Clauses) {
		return plainTrailBack(p, node, s)
	}
	if s.Vars > impl.TrmVars-impl.PrgFree {
		return plainTrailEnd(s, impl.SlvBig)
	}
	on := func(t []cell) []cell { return turned(t, func(v int) int { return v + s.Vars }) }
	ahead := len(s.Choices)
	if next := plainFrom(p, call, at+1); next < len(p.Clauses) {
		s.Choices = append(slices.Clone(s.Choices), trailChoice{Goals: s.Goals, Mark: len(s.Binds), Vars: s.Vars, Call: call, Next: next})
	}
	then, how := plainUnify(s.Binds, call, on(p.Clauses[at].Head))
	switch how {
	case impl.SubApart:
		return plainTrailBack(p, node, s)
	case impl.SubBig:
		return plainTrailEnd(s, impl.SlvBig)
	}
	var goals []pending
	for _, g := range p.Clauses[at].Body {
		one := pending{Goal: goal{Kind: g.Kind, A: on(g.A), B: on(g.B), C: on(g.C)}}
		if g.Kind == impl.GoalCut {
			one.Cut = ahead
		}
		goals = append(goals, one)
	}
	goals = append(goals, pending{Goal: goal{Kind: impl.GoalExit, A: call}})
	return trailState{Status: impl.SlvGoes, Goals: append(goals, s.Goals...), Binds: then, Vars: s.Vars + impl.PrgFree, Choices: s.Choices, Top: s.Top}
}

func plainWants(s trailState) ([]cell, int) {
	if s.Status != impl.SlvWaits || len(s.Choices) == 0 {
		return nil, 0
	}
	last := s.Choices[len(s.Choices)-1]
	return plainCanon(last.Call), last.Far
}

func plainTake(p prog, node int, s trailState, top []cell, n int, o outcome) trailState {
	if !plainTrailOk(p, node, s) {
		return trailState{}
	}
	want, far := plainWants(s)
	if far == 0 || far != n || !slices.Equal(want, top) || !plainOutOk(top, o) {
		return s
	}
	count := len(s.Choices)
	last := s.Choices[count-1]
	switch {
	case o.Status == impl.SlvNone:
		s.Choices = s.Choices[:count-1]
		return plainTrailBack(p, node, s)
	case o.Status != impl.SlvAnswer:
		return plainTrailEnd(s, o.Status)
	case s.Vars > impl.TrmVars-len(o.Term) || last.Far == impl.SlvFuel:
		return plainTrailEnd(s, impl.SlvBig)
	}
	last.Far++
	s.Choices = append(slices.Clone(s.Choices[:count-1]), last)
	then, how := plainUnify(s.Binds, last.Call, turned(o.Term, func(v int) int { return v + s.Vars }))
	switch how {
	case impl.SubApart:
		return plainTrailBack(p, node, s)
	case impl.SubBig:
		return plainTrailEnd(s, impl.SlvBig)
	}
	exit := pending{Goal: goal{Kind: impl.GoalExit, A: last.Call}}
	return trailState{Status: impl.SlvGoes, Goals: append([]pending{exit}, last.Goals...), Binds: then, Vars: s.Vars + len(o.Term), Choices: s.Choices, Top: s.Top}
}
