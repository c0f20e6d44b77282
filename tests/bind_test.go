package tests

import (
	"math"
	"slices"
	"testing"

	"loop.example/catechist/impl"
)

func TestBindingsOk(t *testing.T) {
	for _, s := range someBinds() {
		if !impl.SubOk(s) {
			t.Errorf("not ok: %s", showBinds(s))
		}
	}
	for _, s := range wrongBinds() {
		if impl.SubOk(s) {
			t.Errorf("ok: %v", s)
		}
	}
	r, ok, wrong := steady(), 0, 0
	for range 20000 {
		s := anyBinds(r)
		want := plainBindsOk(s)
		if got := impl.SubOk(s); got != want {
			t.Errorf("%v: %t, want %t", s, got, want)
		}
		if want {
			ok++
		} else {
			wrong++
		}
	}
	if ok < 1000 || wrong < 1000 {
		t.Errorf("only %d are ok, %d are not", ok, wrong)
	}
}

func TestVariablesOfBindingsAtTheEdges(t *testing.T) {
	for v, want := range map[int]bool{
		math.MinInt: false, -1: false, 0: true, 1: true, impl.TrmVars - 1: true, impl.TrmVars: true, impl.TrmVars + 1: false, math.MaxInt: false,
	} {
		s := []binding{{Var: v, Term: chain(2)}}
		if got := impl.SubOk(s); got != want {
			t.Errorf("variable %d is bound: %t", v, got)
		}
		held := []binding{{Var: 5, Term: places(name("g", 1), variable(v))}}
		if got := impl.SubOk(held); got != want {
			t.Errorf("something is bound to what holds variable %d: %t", v, got)
		}
		if got := impl.SubGet(s, v); !slices.Equal(got, chain(2)) {
			t.Errorf("variable %d is bound to %v", v, got)
		}
		if _, got := impl.SubFull(s, chain(2)); got != want {
			t.Errorf("something is full with variable %d bound: %t", v, got)
		}
		if _, got := impl.SubFull(nil, places(variable(v))); got != want {
			t.Errorf("variable %d is full: %t", v, got)
		}
	}
}

// TestGetIsTheFirst: promise 19, of any bindings.
func TestGetIsTheFirst(t *testing.T) {
	r, all := steady(), slices.Concat(someBinds(), wrongBinds())
	for range 2000 {
		all = append(all, anyBinds(r))
	}
	found, missed := 0, 0
	for _, s := range all {
		asked := []int{math.MinInt, -2, -1, 0, 1, 2, 3, 4, 9, impl.TrmVars, impl.TrmVars + 1, math.MaxInt}
		for _, b := range s {
			asked = append(asked, b.Var)
		}
		for _, v := range asked {
			got, want := impl.SubGet(s, v), plainGet(s, v)
			if !slices.Equal(got, want) {
				t.Errorf("%v: %d is bound to %v, want %v", s, v, got, want)
			}
			if len(want) > 0 {
				found++
			} else {
				missed++
			}
		}
	}
	if found < 1000 || missed < 1000 {
		t.Errorf("only %d are bound, %d are not", found, missed)
	}
}

func TestGetByHand(t *testing.T) {
	nonsense := places(cell{Kind: 9, N: -3, Name: "A b"}, variable(-1))
	s := []binding{
		{Var: 3, Term: read("g(X3)")}, {Var: 1, Term: nonsense}, {Var: 3, Term: read("a")}, {Var: -5, Term: read("b")},
		{Var: 7}, {Var: 7, Term: read("a")}, {Var: 8, Term: chain(500)},
	}
	for v, want := range map[int][]cell{3: read("g(X3)"), 1: nonsense, -5: read("b"), 7: nil, 8: chain(500), 0: nil, 2: nil, 5: nil} {
		if got := impl.SubGet(s, v); !slices.Equal(got, want) {
			t.Errorf("%d is bound to %v, want %v", v, got, want)
		}
	}
}

func checkFull(t *testing.T, s []binding, x []cell) bool {
	t.Helper()
	want, fits := plainFull(s, x)
	got, ok := impl.SubFull(s, x)
	if ok != fits || !slices.Equal(got, want) {
		t.Errorf("%v of %v is %v, %t, want %v, %t", s, x, got, ok, want, fits)
	}
	return fits
}

// TestFullHasNothingBound: promise 18.
func TestFullHasNothingBound(t *testing.T) {
	r, full, big := steady(), 0, 0
	for _, s := range someBinds() {
		for range 8 {
			x := fewTerm(r, 1+r.IntN(impl.TrmMost), fewVars())
			if !checkFull(t, s, x) {
				big++
				continue
			}
			full++
			u, _ := impl.SubFull(s, x)
			if again, ok := impl.SubFull(s, u); !ok || !slices.Equal(again, u) {
				t.Errorf("%s: %s is full, but then %s", showBinds(s), impl.TrmText(u), impl.TrmText(again))
			}
			for _, v := range impl.TrmFree(u) {
				if len(impl.SubGet(s, v)) != 0 {
					t.Errorf("%s: %s is full, but holds %d", showBinds(s), impl.TrmText(u), v)
				}
			}
		}
		for _, b := range s {
			one, ok := impl.SubFull(s, places(variable(b.Var)))
			other, fits := impl.SubFull(s, b.Term)
			if ok != fits || !slices.Equal(one, other) {
				t.Errorf("%s: %d is %v, %t, and what it is bound to %v, %t", showBinds(s), b.Var, one, ok, other, fits)
			}
		}
	}
	if full < 1000 || big < 100 {
		t.Errorf("only %d are full, %d are too big", full, big)
	}
}

func TestFullOfLittleTerms(t *testing.T) {
	for _, s := range littleBinds() {
		for _, x := range littleTerms() {
			checkFull(t, s, x)
		}
	}
}

func TestFullByHand(t *testing.T) {
	for _, c := range []struct {
		s       []binding
		x, want string
	}{
		{nil, "f(X0,X1)", "f(X0,X1)"},
		{binds("X0=a"), "f(X0,X1)", "f(a,X1)"},
		{binds("X0=X1"), "f(X0,X1)", "f(X1,X1)"},
		{binds("X1=X0"), "f(X0,X1)", "f(X0,X0)"},
		{binds("X0=g(X1)", "X1=X2", "X2=h(X3,7,X99999)"), "X0", "g(h(X3,7,X99999))"},
		{binds("X2=h(X3,7,X99999)", "X1=X2", "X0=g(X1)"), "f(X2,X0)", "f(h(X3,7,X99999),g(h(X3,7,X99999)))"},
		{binds("X99999=0", "X0=X99999"), "h(X99999,X0,X1)", "h(0,0,X1)"},
		{binds("X0=a"), "-5", "-5"},
	} {
		if got, ok := impl.SubFull(c.s, read(c.x)); !ok || impl.TrmText(got) != c.want {
			t.Errorf("%s: %s is %s, want %s", showBinds(c.s), c.x, impl.TrmText(got), c.want)
		}
	}
}

// TestFullAtTheBound: just TrmMost places, and one more.
func TestFullAtTheBound(t *testing.T) {
	for _, c := range []struct {
		s    []binding
		x    string
		want int
	}{
		{[]binding{{Var: 0, Term: chain(impl.TrmMost)}}, "X0", 40},
		{[]binding{{Var: 0, Term: chain(impl.TrmMost)}, {Var: 1, Term: read("X0")}}, "X1", 40},
		{[]binding{{Var: 0, Term: chain(impl.TrmMost - 1)}}, "g(X0)", 40},
		{[]binding{{Var: 0, Term: chain(impl.TrmMost)}}, "g(X0)", 0},
		{[]binding{{Var: 0, Term: chain(impl.TrmMost - 1)}}, "g(g(X0))", 0},
		{[]binding{{Var: 0, Term: chain(19)}}, "h(X0,X0,a)", 40},
		{[]binding{{Var: 0, Term: chain(19)}}, "h(a,X0,X0)", 40},
		{[]binding{{Var: 0, Term: chain(19)}}, "h(X0,X0,g(a))", 0},
		{[]binding{{Var: 0, Term: chain(20)}}, "h(X0,X0,X1)", 0},
		{[]binding{{Var: 0, Term: chain(13)}}, "h(X0,X0,X0)", 40},
		{[]binding{{Var: 0, Term: chain(13)}, {Var: 1, Term: read("h(X0,X0,X0)")}}, "X1", 40},
		{[]binding{{Var: 0, Term: chain(13)}, {Var: 1, Term: read("h(X0,X0,X0)")}}, "g(X1)", 0},
		{[]binding{{Var: 0, Term: chain(14)}, {Var: 1, Term: read("h(X0,X0,X0)")}}, "X1", 0},
		{doubling(4), "X0", 31},
		{doubling(5), "X1", 31},
		{doubling(5), "X0", 0},
		{doubling(5), "h(X2,X2,X2)", 0},
		{doubling(5), "h(X2,X2,g(X4))", 35},
	} {
		got, ok := impl.SubFull(c.s, read(c.x))
		if ok != (c.want > 0) || len(got) != c.want || ok && !impl.TrmOk(got) {
			t.Errorf("%s: %s is %d places, %t, want %d", showBinds(c.s), c.x, len(got), ok, c.want)
		}
		checkFull(t, c.s, read(c.x))
	}
}

func TestFullOfWhatIsNotOk(t *testing.T) {
	for _, s := range wrongBinds() {
		for _, x := range []string{"a", "X0", "X1", "h(X0,X1,X2)", "X99999"} {
			if got, ok := impl.SubFull(s, read(x)); ok || len(got) != 0 {
				t.Errorf("%v: %s is %v", s, x, got)
			}
		}
	}
	for _, s := range okBinds() {
		for _, x := range wrongPlaces() {
			if got, ok := impl.SubFull(s, x); ok || len(got) != 0 {
				t.Errorf("%s: %v is %v", showBinds(s), x, got)
			}
		}
	}
}

// TestPartsOfBindings: promise 66.
func TestPartsOfBindings(t *testing.T) {
	for _, s := range someBinds() {
		for n := range len(s) + 1 {
			if !impl.SubOk(s[:n]) {
				t.Errorf("the first %d of %s are not ok", n, showBinds(s))
			}
		}
		for _, b := range s {
			for _, x := range [][]cell{b.Term, read("a"), read("X77"), places(variable(b.Var))} {
				more := binding{Var: b.Var, Term: x}
				if impl.SubOk(append(slices.Clone(s), more)) || impl.SubOk(append([]binding{more}, s...)) {
					t.Errorf("%s, and %d bound once more, is ok", showBinds(s), b.Var)
				}
			}
		}
	}
}
