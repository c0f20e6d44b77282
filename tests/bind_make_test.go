package tests

import (
	"math"
	"math/rand/v2"
	"slices"
	"strings"
	"testing"

	"loop.example/catechist/impl"
)

type binding = impl.SubBind

// read is the term of a text that is one.
func read(s string) []cell {
	t, ok := impl.TrmRead(s)
	if !ok {
		panic("no term: " + s)
	}
	return t
}

// binds is bindings as they are written: "X1=f(X2)".
func binds(lines ...string) []binding {
	var s []binding
	for _, line := range lines {
		left, right, _ := strings.Cut(line, "=")
		s = append(s, binding{Var: read(left)[0].N, Term: read(right)})
	}
	return s
}

func showBinds(s []binding) string {
	var lines []string
	for _, b := range s {
		lines = append(lines, impl.TrmText(places(variable(b.Var)))+"="+impl.TrmText(b.Term))
	}
	return strings.Join(lines, " ")
}

func sameBinding(a, b binding) bool { return a.Var == b.Var && slices.Equal(a.Term, b.Term) }

func sameBinds(a, b []binding) bool { return slices.EqualFunc(a, b, sameBinding) }

// inARow binds so many variables, each to the next one.
func inARow(n int) []binding {
	var s []binding
	for v := range n {
		s = append(s, binding{Var: v, Term: places(variable(v + 1))})
	}
	return s
}

// doubling binds so many variables, each to a name that has the next one twice.
func doubling(n int) []binding {
	var s []binding
	for v := range n {
		s = append(s, binding{Var: v, Term: places(name("f", 2), variable(v+1), variable(v+1))})
	}
	return s
}

// okBinds are bindings that are ok, ordinary ones and such as are just within a bound.
func okBinds() [][]binding {
	return [][]binding{
		nil,
		{},
		binds("X0=a"),
		binds("X0=X1"),
		binds("X1=X0"),
		binds("X99999=X0"),
		binds("X0=X99999"),
		binds("X0=f(X1,X1)", "X1=f(X2,X2)", "X2=a"),
		binds("X2=a", "X1=f(X2,X2)", "X0=f(X1,X1)"),
		binds("X5=g(X4)", "X3=X5", "X4=7", "X6=h(X3,X4,X5)"),
		binds("X0=X2", "X1=X2"),
		binds("X0=X1", "X2=X1", "X1=X3", "X4=f(X0,X2)"),
		{{Var: 0, Term: chain(impl.TrmMost)}},
		{{Var: impl.TrmVars, Term: wide(impl.TrmMost)}},
		inARow(50),
		doubling(20),
	}
}

// wrongBinds are bindings that are not ok, each for another cause.
func wrongBinds() [][]binding {
	all := [][]binding{
		binds("X0=X0"),
		binds("X0=f(X0,a)"),
		binds("X0=h(a,b,g(g(X0)))"),
		binds("X0=X1", "X1=X0"),
		binds("X1=X0", "X0=X1"),
		binds("X0=g(X1)", "X1=g(X2)", "X2=g(X0)"),
		binds("X2=g(X0)", "X0=g(X1)", "X1=g(X2)"),
		binds("X9=a", "X0=f(X1,X2)", "X1=b", "X2=f(X9,X3)", "X3=f(X9,X0)"),
		binds("X9=X8", "X0=f(X1,X2)", "X1=X3", "X2=X3", "X3=X4", "X4=X3"),
		binds("X99999=X99999"),
		binds("X0=a", "X0=a"),
		binds("X0=a", "X0=b"),
		binds("X0=a", "X1=b", "X0=X1"),
		binds("X99999=a", "X99999=a"),
		{{Var: -1, Term: chain(1)}},
		{{Var: math.MinInt, Term: chain(1)}},
		{{Var: impl.TrmVars + 1, Term: chain(1)}},
		{{Var: math.MaxInt, Term: chain(1)}},
		{{}},
		{{Var: 0}, {Var: 0}},
		{{Var: 3, Term: []cell{}}},
		append(binds("X0=a", "X1=b"), binding{Var: 2}),
		append(inARow(50), binding{Var: 50, Term: places(variable(0))}),
		append(doubling(60), binding{Var: 60, Term: places(name("g", 1), variable(0))}),
		append(doubling(60), binding{Var: 60, Term: places(name("g", 1), variable(59))}),
	}
	for _, x := range wrongPlaces() {
		all = append(all, []binding{{Var: 0, Term: x}}, append(binds("X7=a"), binding{Var: 1, Term: x}))
	}
	return all
}

// fewTerm is a term of at most so many places, of so few names, numbers and variables that two of them often fit.
func fewTerm(r *rand.Rand, most int, vars []int) []cell {
	if most < 2 || r.IntN(3) == 0 {
		leaves := places(name("a", 0), name("b", 0), number(0))
		if len(vars) > 0 && r.IntN(3) > 0 {
			return places(variable(vars[r.IntN(len(vars))]))
		}
		return places(leaves[r.IntN(len(leaves))])
	}
	arity := 1 + r.IntN(min(impl.TrmArity, most-1))
	t := places(name([]string{"", "g", "f", "h"}[arity], arity))
	for k := range arity {
		left := most - len(t) - (arity - 1 - k)
		t = append(t, fewTerm(r, left, vars)...)
	}
	return t
}

// fewVars are the variables of terms that often fit.
func fewVars() []int { return []int{0, 1, 2, 3, 4, impl.TrmVars} }

// fewBinds binds some of a few variables, each to a term of those behind it in an order of its own, and tells them in another one.
func fewBinds(r *rand.Rand, most int) []binding {
	vars := fewVars()
	r.Shuffle(len(vars), func(i, j int) { vars[i], vars[j] = vars[j], vars[i] })
	var s []binding
	for i := range vars {
		if r.IntN(2) == 0 {
			s = append(s, binding{Var: vars[i], Term: fewTerm(r, 1+r.IntN(most), vars[i+1:])})
		}
	}
	r.Shuffle(len(s), func(i, j int) { s[i], s[j] = s[j], s[i] })
	return s
}

// anyBinds are bindings of any sort, few of which are ok.
func anyBinds(r *rand.Rand) []binding {
	var s []binding
	for range r.IntN(5) {
		b := binding{Var: r.IntN(5), Term: fewTerm(r, 1+r.IntN(4), fewVars())}
		switch r.IntN(12) {
		case 0:
			b.Term = anyPlaces(r)
		case 1:
			b.Var = r.IntN(5) - 2
		}
		s = append(s, b)
	}
	return s
}

// someBinds are the bindings at the edges, and many made ones, all of them ok.
func someBinds() [][]binding {
	r, all := steady(), okBinds()
	for range 1000 {
		all = append(all, fewBinds(r, 1+r.IntN(12)))
	}
	return all
}

// littleTerms are all terms of a few signs with at most one name around them.
func littleTerms() [][]cell {
	leaves := places(variable(0), variable(1), variable(2), name("a", 0), number(1))
	var all [][]cell
	for _, x := range leaves {
		all = append(all, places(x), places(name("g", 1), x))
		for _, y := range leaves {
			all = append(all, places(name("f", 2), x, y))
		}
	}
	return all
}

// littleBinds are no bindings, all that are ok of one variable, and some of two or three, of a few signs.
func littleBinds() [][]binding {
	all := [][]binding{nil}
	for v := range 3 {
		for _, x := range littleTerms() {
			if s := []binding{{Var: v, Term: x}}; plainBindsOk(s) {
				all = append(all, s)
			}
		}
	}
	return append(all,
		binds("X0=X1", "X1=X2"), binds("X1=X2", "X0=X1"), binds("X0=X2", "X1=X2"), binds("X2=X0", "X1=X0"), binds("X0=g(X1)", "X1=g(X2)"),
		binds("X0=g(X2)", "X1=g(X2)"), binds("X0=f(X1,X2)", "X1=a"), binds("X0=a", "X1=a", "X2=a"), binds("X0=a", "X1=1", "X2=g(a)"),
		binds("X2=g(X1)", "X0=f(X2,X1)", "X1=1"), binds("X0=X1", "X2=X1", "X1=g(X3)"))
}

func TestBindingsAreMadeAsMeant(t *testing.T) {
	for _, s := range someBinds() {
		if !plainBindsOk(s) {
			t.Errorf("not ok: %v", s)
		}
	}
	for _, s := range wrongBinds() {
		if plainBindsOk(s) {
			t.Errorf("ok: %v", s)
		}
	}
}
