package tests

import (
	"slices"
	"testing"

	"loop.example/catechist/impl"
)

// guardedBinds is bindings with room behind their end and behind each term's, in which anybody who writes there is seen.
type guardedBinds struct {
	all    []binding
	before []binding
	terms  []*guarded
	n      int
}

func guardBinds(s []binding) *guardedBinds {
	g := &guardedBinds{n: len(s)}
	for _, b := range s {
		term := guard(b.Term)
		g.terms = append(g.terms, term)
		g.all = append(g.all, binding{Var: b.Var, Term: term.list()})
	}
	g.all = append(g.all, slices.Repeat([]binding{{Var: 77, Term: chain(2)}}, 20)...)
	g.before = slices.Clone(g.all)
	return g
}

func (g *guardedBinds) list() []binding { return g.all[:g.n] }

// untouched asks for the very same lists, not only for such as have the same in them.
func (g *guardedBinds) untouched() bool {
	for k, b := range g.all {
		was := g.before[k]
		if b.Var != was.Var || len(b.Term) != len(was.Term) || len(b.Term) > 0 && &b.Term[0] != &was.Term[0] {
			return false
		}
	}
	return !slices.ContainsFunc(g.terms, func(term *guarded) bool { return !term.untouched() })
}

func (g *guardedBinds) scribble() {
	for _, term := range g.terms {
		term.scribble()
	}
	for k := range g.all {
		g.all[k] = binding{Var: 88, Term: chain(3)}
	}
}

func copyBinds(s []binding) []binding {
	var c []binding
	for _, b := range s {
		c = append(c, binding{Var: b.Var, Term: slices.Clone(b.Term)})
	}
	return c
}

// checkNoTwoShare writes over each term of an answer, spare room included, and looks whether another one turns.
func checkNoTwoShare(t *testing.T, what string, answer []binding) {
	t.Helper()
	for k, b := range answer {
		was := copyBinds(answer)
		full := b.Term[:cap(b.Term)]
		for i := range full {
			full[i] = cell{Kind: 99, N: k}
		}
		for j, other := range answer {
			if j != k && !slices.Equal(other.Term, was[j].Term) {
				t.Errorf("%s: terms %d and %d of the answer share memory", what, k, j)
			}
		}
		copy(b.Term, was[k].Term)
	}
}

// checkBindsApart is checkApart of an answer that is bindings, with bindings among what was given.
func checkBindsApart(t *testing.T, what string, answer []binding, s *guardedBinds, given []*guarded) {
	t.Helper()
	untouched := func() bool {
		return s.untouched() && !slices.ContainsFunc(given, func(g *guarded) bool { return !g.untouched() })
	}
	if !untouched() {
		t.Errorf("%s: something is written into an argument", what)
	}
	checkNoTwoShare(t, what, answer)
	was := copyBinds(answer)
	for _, b := range answer {
		full := b.Term[:cap(b.Term)]
		for i := range full {
			full[i] = cell{Kind: 99}
		}
	}
	full := answer[:cap(answer)]
	kept := slices.Clone(full)
	for k := range full {
		full[k] = binding{Var: 99, Term: chain(4)}
	}
	if !untouched() {
		t.Errorf("%s: the answer lies in an argument", what)
	}
	copy(full, kept)
	for k, b := range answer {
		copy(b.Term, was[k].Term)
	}
	s.scribble()
	for _, g := range given {
		g.scribble()
	}
	if !sameBinds(answer, was) {
		t.Errorf("%s: an argument lies in the answer", what)
	}
}

func TestBindingsAreNewMemory(t *testing.T) {
	other := cell{Kind: 99, N: 99, Name: "other"}
	r := steady()
	all := slices.Concat(okBinds(), wrongBinds())
	for range 300 {
		all = append(all, fewBinds(r, 8))
	}
	for _, s := range all {
		asked := []int{-1, 0, 1, 5, impl.TrmVars}
		for _, b := range s {
			asked = append(asked, b.Var)
		}
		for _, v := range asked {
			g := guardBinds(s)
			got := impl.SubGet(g.list(), v)
			checkListApart(t, "SubGet", got, other, g)
		}
		for _, x := range [][]cell{read("X0"), read("a"), read("h(X0,X1,X2)"), fewTerm(r, 20, fewVars()), chain(impl.TrmMost), chain(41), nil} {
			g, h := guardBinds(s), guard(x)
			got, _ := impl.SubFull(g.list(), h.list())
			checkApart(t, "SubFull", got, other, []*guarded{h})
			got, _ = impl.SubFull(g.list(), guard(x).list())
			checkListApart(t, "SubFull", got, other, g)
		}
		g := guardBinds(s)
		impl.SubOk(g.list())
		if !g.untouched() {
			t.Errorf("SubOk writes into its argument")
		}
	}
}

// checkListApart is checkApart of a list, with bindings given.
func checkListApart(t *testing.T, what string, answer []cell, other cell, s *guardedBinds) {
	t.Helper()
	if !s.untouched() {
		t.Errorf("%s: something is written into bindings", what)
	}
	was := slices.Clone(answer)
	full := answer[:cap(answer)]
	for i := range full {
		full[i] = other
	}
	if !s.untouched() {
		t.Errorf("%s: the answer lies in bindings", what)
	}
	copy(answer, was)
	s.scribble()
	if !slices.Equal(answer, was) {
		t.Errorf("%s: bindings lie in the answer", what)
	}
}

func TestUnifyIsNewMemory(t *testing.T) {
	var seen tried
	all := someAsked()[:3000]
	for _, q := range all {
		s, a, b := guardBinds(q.s), guard(q.a), guard(q.b)
		got, how := impl.SubUnify(s.list(), a.list(), b.list())
		seen.count(how)
		checkBindsApart(t, q.String(), got, s, []*guarded{a, b})
	}
	seen.atLeast(t, 500, 500, 50)
	for _, s := range wrongBinds() {
		g, a, b := guardBinds(s), guard(read("f(X0,X1)")), guard(read("f(X1,a)"))
		got, _ := impl.SubUnify(g.list(), a.list(), b.list())
		checkBindsApart(t, "of bindings that are not ok", got, g, []*guarded{a, b})
	}
}

// TestSharedArguments: what lies in one memory when it is given does not in the answer.
func TestSharedArguments(t *testing.T) {
	x := read("f(g(X0),h(X1,X2,a))")
	s := []binding{{Var: 5, Term: x}, {Var: 6, Term: x}, {Var: 7, Term: x[1:3]}}
	for _, q := range []asked{
		{s, places(name("f", 2), variable(8), variable(9)), places(name("f", 2), variable(5), variable(5))},
		{s, x, read("f(X8,X9)")},
		{s, x, x},
		{s, read("f(X8,X8)"), read("f(X5,X6)")},
		{nil, read("h(X4,X5,X6)"), slices.Concat(read("h(a,b,c)")[:1], x[1:3], x[1:3], x[1:3])},
	} {
		got, how := impl.SubUnify(q.s, q.a, q.b)
		if how != impl.SubDone {
			t.Errorf("%v: %d", q, how)
		}
		checkNoTwoShare(t, q.String(), got)
	}
	y := read("f(g(X0),h(X1,X2,a))")
	if !slices.Equal(x, y) {
		t.Errorf("what was given has turned to %v", x)
	}
}

// TestNothingOfBindingsIsKept: what is done to one answer is not seen in the next one.
func TestNothingOfBindingsIsKept(t *testing.T) {
	s, a, b := binds("X5=g(X1)", "X6=X5"), read("f(X0,X6)"), read("f(h(X1,X2,a),g(X3))")
	first, _ := impl.SubUnify(s, a, b)
	was := copyBinds(first)
	for k := range first {
		for i := range first[k].Term {
			first[k].Term[i] = cell{Kind: 99}
		}
		first[k].Var = 99
	}
	if second, how := impl.SubUnify(s, a, b); how != impl.SubDone || !sameBinds(second, was) {
		t.Errorf("%s, and then %s", showBinds(was), showBinds(second))
	}
}
