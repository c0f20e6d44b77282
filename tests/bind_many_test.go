package tests

import (
	"slices"
	"testing"

	"loop.example/catechist/impl"
)

// rowOrders are all variables in one row, the last of which is not bound, told in several orders.
func rowOrders() map[string][]binding {
	row := inARow(impl.TrmVars)
	back := slices.Clone(row)
	slices.Reverse(back)
	mixed := slices.Clone(row)
	steady().Shuffle(len(mixed), func(i, j int) { mixed[i], mixed[j] = mixed[j], mixed[i] })
	return map[string][]binding{"from the first": row, "from the last": back, "in any order": mixed}
}

func TestManyBindingsInARow(t *testing.T) {
	t.Parallel()
	first, last := places(variable(0)), places(variable(impl.TrmVars))
	for how, s := range rowOrders() {
		if !impl.SubOk(s) {
			t.Errorf("%s: not ok", how)
		}
		if got, ok := impl.SubFull(s, read("h(X0,X50000,X99999)")); !ok || impl.TrmText(got) != "h(X99999,X99999,X99999)" {
			t.Errorf("%s: the first one is %v", how, got)
		}
		then, code := impl.SubUnify(s, first, read("g(a)"))
		if code != impl.SubDone || !sameBinds(then, append(slices.Clone(s), binding{Var: impl.TrmVars, Term: read("g(a)")})) {
			t.Errorf("%s: %d, with %d bindings", how, code, len(then))
		}
		checkCodeOfMany(t, how, s, first, last, impl.SubDone)
		checkCodeOfMany(t, how, s, last, read("g(X0)"), impl.SubApart)
		checkCodeOfMany(t, how, s, read("g(X77)"), first, impl.SubApart)
		checkRing(t, how, append(slices.Clone(s), binding{Var: impl.TrmVars, Term: first}))
		checkRing(t, how, append(slices.Clone(s), binding{Var: impl.TrmVars, Term: last}))
		checkRing(t, how, append([]binding{{Var: impl.TrmVars, Term: read("g(X70000)")}}, s...))
		checkRing(t, how, append(slices.Clone(s), s[500]))
		checkRing(t, how, slices.Concat(s, s, s))
	}
}

// checkCodeOfMany tells no bindings, of which there are too many to be read.
func checkCodeOfMany(t *testing.T, what string, s []binding, a, b []cell, want int) {
	t.Helper()
	then, how := impl.SubUnify(s, a, b)
	if how != want || how == impl.SubDone && len(then) < len(s) || how != impl.SubDone && len(then) != 0 {
		t.Errorf("%s: %s and %s: %d, with %d bindings, want %d", what, impl.TrmText(a), impl.TrmText(b), how, len(then), want)
	}
}

func checkRing(t *testing.T, what string, s []binding) {
	t.Helper()
	if impl.SubOk(s) {
		t.Errorf("%s: %d bindings that are not ok are", what, len(s))
	}
	if got, ok := impl.SubFull(s, read("f(a,X0)")); ok || len(got) != 0 {
		t.Errorf("%s: of bindings that are not ok something is full: %v", what, got)
	}
	checkCodeOfMany(t, what, s, read("X0"), read("X1"), impl.SubWrong)
}

// TestDoublingBindings: what a few bindings stand for has more places than could ever be gone through.
func TestDoublingBindings(t *testing.T) {
	t.Parallel()
	for _, n := range []int{30, 1000, 50000} {
		s := doubling(n)
		back := slices.Clone(s)
		slices.Reverse(back)
		end := places(variable(n))
		for what, s := range map[string][]binding{"from the first": s, "from the last": back} {
			if !impl.SubOk(s) {
				t.Errorf("%s: not ok", what)
			}
			for _, x := range []string{"X0", "g(X0)", "h(a,X1,X0)", "f(X9,X8)"} {
				if got, ok := impl.SubFull(s, read(x)); ok || len(got) != 0 {
					t.Errorf("%s: %s is full: %v", what, x, got)
				}
			}
			checkCodeOfMany(t, what, s, read("X0"), read("a"), impl.SubBig)
			checkCodeOfMany(t, what, s, read("a"), read("X0"), impl.SubBig)
			checkCodeOfMany(t, what, s, places(variable(n-4)), end, impl.SubApart)
			checkCodeOfMany(t, what, s, end, read("a"), impl.SubDone)
			// By what is bound then all the others hold themselves.
			checkCodeOfMany(t, what, s, end, places(name("g", 1), variable(n-3)), impl.SubApart)
			checkRing(t, what, append(slices.Clone(s), binding{Var: n, Term: places(variable(0))}))
			checkRing(t, what, append(slices.Clone(s), binding{Var: n, Term: places(name("h", 3), variable(n+1), variable(n+2), variable(n-1))}))
		}
	}
}

// TestDoublingByUnify: places that double as they are bound, in both terms, before it is seen whether they are apart.
func TestDoublingByUnify(t *testing.T) {
	const levels = 6
	row := func(last []cell, of func(k int) []cell) []cell {
		var x []cell
		for k := range levels {
			x = append(append(x, name("h", 3)), of(k)...)
		}
		return append(x, last...)
	}
	twice := func(from int) func(int) []cell {
		return func(k int) []cell {
			return places(variable(from+k+1), name("f", 2), variable(50-from+k), variable(50-from+k))
		}
	}
	a := func(last string) []cell { return row(read(last), twice(0)) }
	b := func(last string) []cell {
		return row(read(last), func(k int) []cell { return places(name("f", 2), variable(k), variable(k), variable(51+k)) })
	}
	if !impl.TrmOk(a("X0")) || !impl.TrmOk(b("X0")) {
		t.Fatal("the terms are too big", len(a("X0")), len(b("X0")))
	}
	for _, c := range []struct {
		x, y string
		want int
	}{
		{"a", "a", impl.SubBig},
		{"a", "b", impl.SubApart},
		{"X6", "X56", impl.SubBig},
		{"X0", "X6", impl.SubApart},
		{"X50", "X6", impl.SubBig},
		{"f(X6,X0)", "f(X56,g(X50))", impl.SubApart},
		{"f(X6,g(X0))", "f(X56,X50)", impl.SubApart},
	} {
		checkCode(t, nil, a(c.x), b(c.y), c.want)
		checkUnify(t, asked{nil, a(c.x), b(c.y)})
	}
}
