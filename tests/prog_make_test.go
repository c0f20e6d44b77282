package tests

import (
	"math"
	"math/rand/v2"
	"reflect"
	"slices"
	"testing"

	"loop.example/catechist/impl"
)

type (
	goal   = impl.PrgGoal
	clause = impl.PrgClause
	told   = impl.PrgPlace
	prog   = impl.PrgProg
)

// Goals of terms as they are written.
func callOf(a string) goal { return goal{Kind: impl.GoalCall, A: read(a)} }

func sameOf(a, b string) goal { return goal{Kind: impl.GoalSame, A: read(a), B: read(b)} }

func lessOf(a, b string) goal { return goal{Kind: impl.GoalLess, A: read(a), B: read(b)} }

func plusOf(a, b, c string) goal {
	return goal{Kind: impl.GoalPlus, A: read(a), B: read(b), C: read(c)}
}

func cutHere() goal { return goal{Kind: impl.GoalCut} }

// placed tells at which node a name with so many arguments is called.
func placed(name string, n int, node int) told { return told{Name: name, N: n, Node: node} }

func clauseWith(head string, body ...goal) clause { return clause{Head: read(head), Body: body} }

// sameValue says whether two values are the same, with an empty list the same as none.
func sameValue(a, b any) bool { return reflect.DeepEqual(noSpareOf(a), noSpareOf(b)) }

// noSpareOf is noSpare of a value of any type.
func noSpareOf[T any](v T) T { return noSpare(reflect.ValueOf(v)).Interface().(T) }

// noSpare is a copy of a value in which no list has room behind its end, and each empty one is there.
func noSpare(v reflect.Value) reflect.Value {
	c := reflect.New(v.Type()).Elem()
	switch v.Kind() {
	case reflect.Slice:
		all := reflect.MakeSlice(v.Type(), v.Len(), v.Len())
		for i := range v.Len() {
			all.Index(i).Set(noSpare(v.Index(i)))
		}
		c.Set(all)
	case reflect.Struct:
		for i := range v.NumField() {
			c.Field(i).Set(noSpare(v.Field(i)))
		}
	default:
		c.Set(v)
	}
	return c
}

// isNothing says whether a value is the zero value of its type, with all lists empty.
func isNothing(v any) bool {
	return sameValue(v, reflect.Zero(reflect.TypeOf(v)).Interface())
}

// okGoals are goals that may stand in a clause, ordinary ones and such as are just within a bound.
func okGoals() []goal {
	most := impl.PrgCells
	edge := goal{Kind: impl.GoalCall, A: chain(most)}
	all := []goal{
		callOf("a"), callOf("if"), callOf("and"), callOf("at"), callOf("abcdefgh"), callOf("f(X0)"), callOf("f(X7,X7,X7)"), callOf("f(9999,-9999,0)"),
		callOf("f(g(h(X0,X1,X2),X3),g(X4,X5),X6)"), edge, {Kind: impl.GoalCall, A: read("f(f(a,a,a),f(a,a,a),h(a,a))")},
		sameOf("X0", "X0"), sameOf("X0", "and"), sameOf("if", "and"), sameOf("and", "if"), sameOf("1", "a"), sameOf("f(X7)", "g(X0,-5)"),
		lessOf("X0", "X1"), lessOf("-9999", "9999"), lessOf("a", "b"), lessOf("and", "and"), lessOf("f(X1)", "0"),
		plusOf("X0", "1", "X1"), plusOf("a", "b", "c"), plusOf("and", "and", "and"), plusOf("9999", "9999", "-9999"), plusOf("f(X0)", "f(X1)", "f(X7)"),
		cutHere(),
	}
	for _, kind := range []int{impl.GoalSame, impl.GoalLess} {
		all = append(all, goal{Kind: kind, A: chain(most), B: chain(most)})
	}
	all = append(all, goal{Kind: impl.GoalPlus, A: chain(most), B: chain(most), C: chain(most)})
	return append(all, goal{Kind: impl.GoalCut, A: []cell{}, B: []cell{}, C: []cell{}}, goal{Kind: impl.GoalCall, A: chain(2), B: []cell{}})
}

// termsOf is the terms that a goal of a kind has: 1 for A, 2 for B, 4 for C.
func termsOf(kind int) int {
	switch kind {
	case impl.GoalCall, impl.GoalExit:
		return 1
	case impl.GoalSame, impl.GoalLess:
		return 3
	case impl.GoalPlus:
		return 7
	}
	return 0
}

// goalWith is a goal of a kind with the same term at all those places.
func goalWith(kind int, which int, t []cell) goal {
	g := goal{Kind: kind}
	for k, part := range []*[]cell{&g.A, &g.B, &g.C} {
		if which>>k&1 == 1 {
			*part = slices.Clone(t)
		}
	}
	return g
}

// wrongTerms are places that may not stand in a clause.
func wrongTerms() [][]cell {
	return append(wrongPlaces()[2:],
		chain(impl.PrgCells+1), chain(impl.TrmMost), wide(impl.PrgCells+1), read("X8"), read("f(X8)"), read("f(a,X0,X9)"), read("X99999"), read("f(g(a,X7,X8))"))
}

// wrongGoals are goals that may not stand in a clause, each for another cause.
func wrongGoals() []goal {
	var all []goal
	for _, kind := range []int{math.MinInt, -1, 0, impl.GoalExit, 7, 8, math.MaxInt} {
		for which := range 8 {
			all = append(all, goalWith(kind, which, read("f(X0)")))
		}
	}
	for kind := impl.GoalCall; kind <= impl.GoalPlus; kind++ {
		for which := range 8 {
			if which != termsOf(kind) {
				all = append(all, goalWith(kind, which, read("f(X0)")))
			}
		}
		for k := range 3 {
			for _, x := range wrongTerms() {
				g := goalWith(kind, termsOf(kind), read("f(X0)"))
				*[]*[]cell{&g.A, &g.B, &g.C}[k] = x
				all = append(all, g)
			}
		}
	}
	return append(all, callOf("X0"), callOf("X7"), callOf("0"), callOf("-3"))
}

// hardNames are names that are words of lines as well, and others.
func hardNames() []string { return []string{"if", "and", "at", "a", "b", "none", "abcdefgh"} }

// clauseTerm is a term of at most so many places, with variables below so many.
func clauseTerm(r *rand.Rand, most int, vars int) []cell {
	if most < 2 || r.IntN(3) == 0 {
		switch r.IntN(3) {
		case 0:
			return places(variable(r.IntN(vars)))
		case 1:
			return places(number([]int{0, 1, 7, -1, -12, impl.TrmNums, -impl.TrmNums}[r.IntN(7)]))
		}
		return places(name(hardNames()[r.IntN(len(hardNames()))], 0))
	}
	return clauseCall(r, most, vars)
}

// clauseCall is a name with arguments, of at most so many places.
func clauseCall(r *rand.Rand, most int, vars int) []cell {
	arity := r.IntN(min(impl.TrmArity, most-1) + 1)
	t := places(name(hardNames()[r.IntN(len(hardNames()))], arity))
	for k := range arity {
		left := most - len(t) - (arity - 1 - k)
		t = append(t, clauseTerm(r, left, vars)...)
	}
	return t
}

func madeGoal(r *rand.Rand) goal {
	term := func() []cell { return clauseTerm(r, 1+r.IntN(impl.PrgCells), impl.PrgFree) }
	switch kind := impl.GoalCall + r.IntN(5); kind {
	case impl.GoalCall:
		return goal{Kind: kind, A: clauseCall(r, 1+r.IntN(impl.PrgCells), impl.PrgFree)}
	case impl.GoalSame, impl.GoalLess:
		return goal{Kind: kind, A: term(), B: term()}
	case impl.GoalPlus:
		return goal{Kind: kind, A: term(), B: term(), C: term()}
	}
	return cutHere()
}

func madeClause(r *rand.Rand) clause {
	c := clause{Head: clauseCall(r, 1+r.IntN(impl.PrgCells), impl.PrgFree)}
	for range r.IntN(impl.PrgGoals + 1) {
		c.Body = append(c.Body, madeGoal(r))
	}
	return c
}

// madePlaces tells the node of so many names.
func madePlaces(r *rand.Rand, n int) []told {
	var all []told
	for len(all) < n {
		one := told{Name: hardNames()[r.IntN(len(hardNames()))], N: r.IntN(impl.TrmArity + 1), Node: 1 + r.IntN(impl.PrgNodes-1)}
		if !slices.ContainsFunc(all, func(o told) bool { return o.Name == one.Name && o.N == one.N }) {
			all = append(all, one)
		}
	}
	return all
}

func madeProg(r *rand.Rand) prog {
	p := prog{Places: madePlaces(r, r.IntN(impl.PrgPlaces+1))}
	for range r.IntN(impl.PrgClauses + 1) {
		p.Clauses = append(p.Clauses, madeClause(r))
	}
	return p
}

// okClauses are clauses that are ok, at the edges.
func okClauses() []clause {
	full := clauseWith("f(X7)", cutHere(), cutHere(), cutHere(), cutHere())
	all := []clause{clauseWith("a"), clauseWith("if"), clauseWith("at"), clauseWith("f(a,b,c)"), {Head: chain(impl.PrgCells)}, full, {Head: chain(1), Body: []goal{}}}
	for _, g := range okGoals() {
		all = append(all, clause{Head: read("w(X0)"), Body: []goal{g}}, clause{Head: read("and"), Body: []goal{g, g, g, g}})
	}
	return all
}

// wrongClauses are clauses that are not ok, each for another cause.
func wrongClauses() []clause {
	all := []clause{clauseWith("X0"), clauseWith("3"), clauseWith("-3"), {}, {Body: []goal{cutHere()}}, {Head: chain(impl.PrgCells + 1)},
		clauseWith("f(X8)"), clauseWith("X0", callOf("a")), clauseWith("a", cutHere(), cutHere(), cutHere(), cutHere(), cutHere()),
		{Head: read("a"), Body: slices.Repeat([]goal{callOf("a")}, 100000)}}
	for _, x := range wrongTerms() {
		all = append(all, clause{Head: x})
	}
	for _, g := range wrongGoals() {
		all = append(all, clause{Head: read("w(X0)"), Body: []goal{g}}, clause{Head: read("w(X0)"), Body: []goal{cutHere(), callOf("a"), cutHere(), g}})
	}
	return all
}

func someFacts(n int) []clause { return slices.Repeat([]clause{clauseWith("f(a,X0)")}, n) }

// okProgs are programs that are ok, at the edges.
func okProgs() []prog {
	all := []prog{
		{}, {Clauses: []clause{}, Places: []told{}}, {Clauses: someFacts(1)}, {Clauses: someFacts(impl.PrgClauses - 1)}, {Clauses: someFacts(impl.PrgClauses)},
		{Places: []told{placed("e", 2, 1)}}, {Places: []told{placed("e", 2, 2), placed("e", 1, 2), placed("e", 0, 1), placed("e", 3, 1)}}, {Places: []told{placed("abcdefgh", 0, 1), placed("abcdefg", 0, 1)}},
		{Places: madePlaces(steady(), impl.PrgPlaces-1)}, {Places: madePlaces(steady(), impl.PrgPlaces)},
		{Clauses: someFacts(impl.PrgClauses), Places: madePlaces(steady(), impl.PrgPlaces)},
	}
	for _, c := range okClauses() {
		all = append(all, prog{Clauses: []clause{c}, Places: []told{placed("e", 2, 1)}})
	}
	return all
}

// wrongProgs are programs that are not ok, each for another cause.
func wrongProgs() []prog {
	all := []prog{
		{Clauses: someFacts(impl.PrgClauses + 1)}, {Clauses: someFacts(100000)}, {Places: madePlaces(steady(), impl.PrgPlaces+1)}, {Places: make([]told, 100000)},
		{Clauses: someFacts(impl.PrgClauses + 1), Places: madePlaces(steady(), impl.PrgPlaces)}, {Clauses: someFacts(impl.PrgClauses), Places: madePlaces(steady(), impl.PrgPlaces+1)},
	}
	for _, at := range []told{
		{}, placed("e", 2, 0), placed("e", 2, -1), placed("e", 2, impl.PrgNodes), placed("e", 2, math.MaxInt), placed("e", 2, math.MinInt), placed("e", -1, 1), placed("e", impl.TrmArity+1, 1),
		placed("e", math.MaxInt, 1), placed("e", math.MinInt, 1), placed("", 0, 1), placed("E", 0, 1), placed("e1", 0, 1), placed("e e", 0, 1), placed("abcdefghi", 0, 1), placed("\xff", 0, 1), placed(" ", 0, 1), placed("X1", 0, 1), placed("1", 0, 1),
	} {
		all = append(all, prog{Places: []told{at}}, prog{Places: []told{placed("f", 2, 1), at}}, prog{Clauses: someFacts(1), Places: []told{at, placed("f", 2, 1)}})
	}
	for _, node := range []int{1, 2} {
		all = append(all, prog{Places: []told{placed("e", 2, 1), placed("e", 2, node)}}, prog{Places: []told{placed("e", 0, 1), placed("f", 2, 1), placed("e", 0, node)}})
	}
	for _, c := range wrongClauses() {
		all = append(all, prog{Clauses: []clause{c}}, prog{Clauses: append(someFacts(3), c), Places: []told{placed("e", 2, 1)}})
	}
	return all
}

// somePrograms are the programs at the edges, and many made ones, all of them ok.
func somePrograms() []prog {
	r, all := steady(), okProgs()
	for range 1500 {
		all = append(all, madeProg(r))
	}
	return all
}

func TestProgramsAreMadeAsMeant(t *testing.T) {
	for _, p := range somePrograms() {
		if !plainProgOk(p) {
			t.Errorf("not ok: %v", p)
		}
	}
	for _, p := range wrongProgs() {
		if plainProgOk(p) {
			t.Errorf("ok: %v", p)
		}
	}
	for _, g := range wrongGoals() {
		if plainGoalOk(g) {
			t.Errorf("ok: %v", g)
		}
	}
	kinds := map[int]int{}
	for _, p := range somePrograms() {
		for _, c := range p.Clauses {
			for _, g := range c.Body {
				kinds[g.Kind]++
			}
		}
	}
	for kind := impl.GoalCall; kind <= impl.GoalPlus; kind++ {
		if kinds[kind] < 500 {
			t.Errorf("only %d goals are of kind %d", kinds[kind], kind)
		}
	}
}
