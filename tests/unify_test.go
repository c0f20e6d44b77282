package tests

import (
	"slices"
	"strconv"
	"testing"

	"loop.example/catechist/impl"
)

// tried counts how SubUnify answered, so that a test can tell that it has seen each of them.
type tried struct {
	done, apart, big int
}

func (c *tried) count(how int) {
	switch how {
	case impl.SubDone:
		c.done++
	case impl.SubApart:
		c.apart++
	case impl.SubBig:
		c.big++
	}
}

func (c *tried) atLeast(t *testing.T, done, apart, big int) {
	t.Helper()
	if c.done < done || c.apart < apart || c.big < big {
		t.Errorf("only %d are done, %d apart, %d too big", c.done, c.apart, c.big)
	}
}

// asked is bindings and two terms.
type asked struct {
	s    []binding
	a, b []cell
}

func (q asked) String() string {
	return showBinds(q.s) + ": " + impl.TrmText(q.a) + " and " + impl.TrmText(q.b)
}

// someAsked are many of them, all ok, of which some can be the same, some not, and some are too big.
func someAsked() []asked {
	r := steady()
	var all []asked
	for range 20000 {
		most, s := 1+r.IntN(impl.TrmMost), []binding(nil)
		if r.IntN(3) > 0 {
			s = fewBinds(r, 1+r.IntN(10))
		}
		a, b := fewTerm(r, most, fewVars()), fewTerm(r, most, fewVars())
		if r.IntN(2) == 0 {
			b = otherwise(a, func() bool { return r.IntN(4) == 0 }, func() []cell { return fewTerm(r, 3, fewVars()) })
		}
		if impl.TrmOk(b) {
			all = append(all, asked{s, a, b})
		}
	}
	return all
}

// otherwise is a term with another one in the place of some of its leaves.
func otherwise(t []cell, turn func() bool, to func() []cell) []cell {
	var u []cell
	for _, c := range t {
		if (c.Kind != impl.TrmFun || c.N == 0) && turn() {
			u = append(u, to()...)
		} else {
			u = append(u, c)
		}
	}
	return u
}

func checkUnify(t *testing.T, q asked) int {
	t.Helper()
	want, code := plainUnify(q.s, q.a, q.b)
	got, how := impl.SubUnify(q.s, q.a, q.b)
	if how != code || !sameBinds(got, want) {
		t.Errorf("%v: %s, %d, want %s, %d", q, showBinds(got), how, showBinds(want), code)
	}
	return how
}

// TestUnifyIsAsTold: which way variables are bound, in which order, to what, and which code is told.
func TestUnifyIsAsTold(t *testing.T) {
	var seen tried
	for _, q := range someAsked() {
		seen.count(checkUnify(t, q))
	}
	seen.atLeast(t, 2000, 2000, 500)
}

func TestUnifyOfLittleTerms(t *testing.T) {
	var seen tried
	for _, s := range littleBinds() {
		for _, a := range littleTerms() {
			for _, b := range littleTerms() {
				seen.count(checkUnify(t, asked{s, a, b}))
			}
		}
	}
	seen.atLeast(t, 10000, 10000, 0)
}

func TestUnifyByHand(t *testing.T) {
	for _, c := range []struct {
		s    []binding
		a, b string
		want []binding // behind those that there were
	}{
		{nil, "X0", "X1", binds("X0=X1")},
		{nil, "X1", "X0", binds("X1=X0")},
		{nil, "X0", "X99999", binds("X0=X99999")},
		{nil, "X99999", "X0", binds("X99999=X0")},
		{nil, "X0", "X0", nil},
		{nil, "X0", "f(X1,X2)", binds("X0=f(X1,X2)")},
		{nil, "f(X1,X2)", "X0", binds("X0=f(X1,X2)")},
		{nil, "a", "a", nil},
		{nil, "-3", "-3", nil},
		{nil, "h(X2,X0,X1)", "h(a,b,c)", binds("X2=a", "X0=b", "X1=c")},
		{nil, "h(X2,b,X1)", "h(a,X0,c)", binds("X2=a", "X0=b", "X1=c")},
		{nil, "h(f(X0,X1),X2,X3)", "h(f(1,2),3,4)", binds("X0=1", "X1=2", "X2=3", "X3=4")},
		{nil, "f(X0,X0)", "f(X1,a)", binds("X0=X1", "X1=a")},
		{nil, "f(X0,g(X1))", "f(g(X1),X0)", binds("X0=g(X1)")},
		{nil, "h(X0,X1,X2)", "h(X1,X2,X0)", binds("X0=X1", "X1=X2")},
		{nil, "h(X0,X1,X0)", "h(g(X1),X2,g(a))", binds("X0=g(X1)", "X1=X2", "X2=a")},
		// What is bound to is behind variables that are bound, but not full.
		{binds("X0=X5"), "X0", "X1", binds("X5=X1")},
		{binds("X1=X6"), "X0", "X1", binds("X0=X6")},
		{binds("X0=X5", "X1=X6"), "X0", "X1", binds("X5=X6")},
		{binds("X0=X5", "X1=X6"), "X1", "X0", binds("X6=X5")},
		{binds("X0=X1", "X2=X1"), "X0", "X2", nil},
		{binds("X1=f(X2,X3)", "X2=a"), "X0", "X1", binds("X0=f(X2,X3)")},
		{binds("X1=f(X2,X3)", "X2=a"), "X1", "X0", binds("X0=f(X2,X3)")},
		{binds("X2=a"), "X0", "g(X2)", binds("X0=g(X2)")},
		{binds("X2=a"), "g(X2)", "X0", binds("X0=g(X2)")},
		{binds("X9=a", "X3=b"), "f(X1,X3)", "f(X2,X4)", binds("X1=X2", "X4=b")},
		{binds("X0=f(X1,X2)"), "X0", "f(a,g(X3))", binds("X1=a", "X2=g(X3)")},
		{binds("X0=g(X1)", "X2=g(X3)"), "X0", "X2", binds("X1=X3")},
		{binds("X0=7"), "X0", "7", nil},
	} {
		want := slices.Concat(c.s, c.want)
		if got, how := impl.SubUnify(c.s, read(c.a), read(c.b)); how != impl.SubDone || !sameBinds(got, want) {
			t.Errorf("%s: %s and %s: %s, %d, want %s", showBinds(c.s), c.a, c.b, showBinds(got), how, showBinds(want))
		}
	}
}

func checkCode(t *testing.T, s []binding, a, b []cell, want int) {
	t.Helper()
	got, how := impl.SubUnify(s, a, b)
	if how != want || how != impl.SubDone && len(got) != 0 {
		t.Errorf("%v: %s, %d, want %d", asked{s, a, b}, showBinds(got), how, want)
	}
}

func TestApartByHand(t *testing.T) {
	for _, c := range []struct {
		s    []binding
		a, b string
	}{
		{nil, "a", "b"},
		{nil, "a", "1"},
		{nil, "1", "2"},
		{nil, "1", "-1"},
		{nil, "a", "g(a)"},
		{nil, "f(a,b)", "f(a)"},
		{nil, "f(a,b)", "f(a,b,c)"},
		{nil, "f(X0)", "g(X0)"},
		{nil, "f(X0,X1)", "f(X0)"},
		{nil, "h(X0,X1,a)", "h(X1,X2,b)"},
		{nil, "f(X0,X0)", "f(a,b)"},
		{nil, "X0", "g(X0)"},
		{nil, "g(X0)", "X0"},
		{nil, "X99999", "f(a,X99999)"},
		{nil, "f(X0,X1)", "f(g(X1),g(X0))"},
		{nil, "h(X0,X1,X2)", "h(g(X1),g(X2),g(X0))"},
		{nil, "h(X0,X1,X0)", "h(X1,X0,g(X1))"},
		{binds("X0=a"), "X0", "b"},
		{binds("X0=a", "X1=b"), "X0", "X1"},
		{binds("X0=X1", "X1=1"), "g(2)", "g(X0)"},
		{binds("X1=g(X0)"), "X0", "X1"},
		{binds("X1=g(X0)"), "X1", "X0"},
		{binds("X1=f(X5,X2)", "X2=g(X3)", "X3=X0"), "X0", "X1"},
		{binds("X1=f(X5,X2)", "X2=g(X3)", "X3=X0"), "g(X1)", "g(X3)"},
		{binds("X2=X0"), "X0", "g(X2)"},
		{binds("X2=X0"), "X2", "g(X0)"},
	} {
		checkCode(t, c.s, read(c.a), read(c.b), impl.SubApart)
	}
}

func TestBigOrApart(t *testing.T) {
	big := []binding{{Var: 0, Term: chain(impl.TrmMost)}, {Var: 8, Term: read("a")}}
	just := []binding{{Var: 0, Term: chain(impl.TrmMost - 1)}, {Var: 8, Term: read("a")}}
	for _, c := range []struct {
		s    []binding
		a, b []cell
		want int
	}{
		// Ahead of all: one of both is too big, however little the other one has to do with it.
		{big, read("g(X0)"), read("1"), impl.SubBig},
		{big, read("1"), read("g(X0)"), impl.SubBig},
		{big, read("g(X0)"), read("g(X0)"), impl.SubBig},
		{big, read("X5"), read("g(X0)"), impl.SubBig},
		{big, read("g(X0)"), read("X5"), impl.SubBig},
		{big, read("f(1,X0)"), read("f(2,X0)"), impl.SubBig},
		{big, read("1"), read("1"), impl.SubDone},
		{big, read("X0"), read("X5"), impl.SubDone},
		{big, read("X0"), read("1"), impl.SubApart},
		{just, read("g(X0)"), read("1"), impl.SubApart},
		{just, read("g(X0)"), read("X5"), impl.SubDone},
		{just, read("X5"), read("g(X0)"), impl.SubDone},
		// At last: both are too big by what was bound.
		{nil, read("h(X0,X0,c)"), slices.Concat(read("h(X1,a,c)")[:2], chain(19), read("c")), impl.SubDone},
		{nil, read("h(X0,X0,c)"), slices.Concat(read("h(X1,a,c)")[:2], chain(20), read("c")), impl.SubBig},
		{nil, slices.Concat(read("h(X1,a,c)")[:2], chain(20), read("c")), read("h(X0,X0,c)"), impl.SubBig},
		{nil, read("h(X0,X0,c)"), slices.Concat(read("h(X1,a,c)")[:2], chain(20), read("d")), impl.SubApart},
		{nil, read("h(c,X0,X0)"), slices.Concat(read("h(d,X1,a)")[:3], chain(20)), impl.SubApart},
		{nil, read("h(X0,X0,X1)"), slices.Concat(read("h(X1,a,c)")[:2], chain(20), read("f(X0,a)")), impl.SubApart},
		{binds("X9=f(X0,X0)"), read("f(X9,X0)"), slices.Concat(read("f(X1,a)")[:2], chain(12)), impl.SubDone},
		{binds("X9=f(X0,X0)"), read("f(X9,X0)"), slices.Concat(read("f(X1,a)")[:2], chain(13)), impl.SubBig},
		// What is bound by the way, but is in neither term, may be as big as it is.
		{binds("X9=f(X0,X0)"), read("X0"), chain(30), impl.SubDone},
		{binds("X9=f(X0,X0)"), read("X0"), chain(impl.TrmMost), impl.SubDone},
		{doubling(30), read("X40"), read("a"), impl.SubDone},
		{doubling(30), read("X30"), read("a"), impl.SubDone},
		{doubling(30), read("X20"), read("a"), impl.SubBig},
		{doubling(30), read("X27"), read("a"), impl.SubApart},
	} {
		checkCode(t, c.s, c.a, c.b, c.want)
		checkUnify(t, asked{c.s, c.a, c.b})
	}
}

// TestUnifyOfWhatIsNotOk: SubWrong comes ahead of SubBig and SubApart.
func TestUnifyOfWhatIsNotOk(t *testing.T) {
	for _, s := range wrongBinds() {
		for _, x := range []string{"a", "X0", "f(X0,X1)", "X99999"} {
			for _, y := range []string{"a", "b", "X0", "g(X1)"} {
				checkCode(t, s, read(x), read(y), impl.SubWrong)
			}
		}
	}
	big := []binding{{Var: 0, Term: chain(impl.TrmMost)}}
	for _, s := range append(okBinds(), big) {
		for _, x := range wrongPlaces() {
			for _, y := range [][]cell{read("a"), read("X0"), read("g(X0)"), x} {
				checkCode(t, s, x, y, impl.SubWrong)
				checkCode(t, s, y, x, impl.SubWrong)
			}
		}
	}
	checkCode(t, append(big, binding{Var: 1, Term: read("X1")}), read("g(X0)"), read("1"), impl.SubWrong)
	checkCode(t, nil, nil, nil, impl.SubWrong)
	checkCode(t, []binding{}, []cell{}, []cell{}, impl.SubWrong)
}

// TestBoundMakesBothTheSame: promises 1 and 65.
func TestBoundMakesBothTheSame(t *testing.T) {
	var seen tried
	for _, q := range someAsked() {
		then, how := impl.SubUnify(q.s, q.a, q.b)
		seen.count(how)
		if how != impl.SubDone {
			if len(then) != 0 {
				t.Errorf("%v: %d, with %s", q, how, showBinds(then))
			}
			continue
		}
		if !impl.SubOk(then) || len(then) < len(q.s) || !sameBinds(then[:len(q.s)], q.s) {
			t.Errorf("%v: %s", q, showBinds(then))
		}
		x, ok := impl.SubFull(then, q.a)
		y, fits := impl.SubFull(then, q.b)
		if !ok || !fits || !impl.TrmSame(x, y) {
			t.Errorf("%v are then %s and %s", q, impl.TrmText(x), impl.TrmText(y))
		}
		if again, how := impl.SubUnify(then, q.a, q.b); how != impl.SubDone || !sameBinds(again, then) {
			t.Errorf("%v: once more binds %s", q, showBinds(again))
		}
	}
	seen.atLeast(t, 2000, 2000, 500)
}

// checkNoMoreIsBound holds two terms that are the same by some bindings against what SubUnify alone makes of them.
func checkNoMoreIsBound(t *testing.T, q asked) bool {
	t.Helper()
	x, ok := impl.SubFull(q.s, q.a)
	y, fits := impl.SubFull(q.s, q.b)
	if !ok || !fits || !impl.TrmSame(x, y) {
		return false
	}
	then, how := impl.SubUnify(nil, q.a, q.b)
	if how != impl.SubDone {
		t.Errorf("%v: alone it is %d", q, how)
		return true
	}
	u, _ := impl.SubFull(then, q.a)
	if z, ok := impl.SubFull(q.s, u); !ok || !impl.TrmSame(z, x) {
		t.Errorf("%v: %s, and so %s, which is %s by those, not %s", q, showBinds(then), impl.TrmText(u), impl.TrmText(z), impl.TrmText(x))
	}
	return true
}

// TestNoMoreIsBoundThanMustBe: promise 2.
func TestNoMoreIsBoundThanMustBe(t *testing.T) {
	same := 0
	for _, s := range littleBinds() {
		for _, a := range littleTerms() {
			for _, b := range littleTerms() {
				if checkNoMoreIsBound(t, asked{s, a, b}) {
					same++
				}
			}
		}
	}
	if same < 4000 {
		t.Errorf("only %d pairs are the same by some bindings", same)
	}
}

// TestNoMoreIsBoundOfPatterns: promise 2, of terms that are made from one term by variables in the place of its parts.
func TestNoMoreIsBoundOfPatterns(t *testing.T) {
	r, full := steady(), 0
	for range 5000 {
		whole := fewTerm(r, 1+r.IntN(impl.TrmMost), []int{500, 501, 502})
		p := pattern{turn: func() bool { return r.IntN(6) == 0 }, apart: func() bool { return r.IntN(3) == 0 }}
		q := asked{a: p.of(whole), b: p.of(whole)}
		q.s = p.s
		if !checkNoMoreIsBound(t, q) {
			t.Errorf("%v are not both %s", q, impl.TrmText(whole))
		}
		if len(whole) == impl.TrmMost {
			full++
		}
	}
	if full < 20 {
		t.Errorf("only %d of the greatest size", full)
	}
}

// pattern puts variables in the place of parts, and keeps of what; the same part has the same variable now and then.
type pattern struct {
	turn, apart func() bool
	s           []binding
}

func (p *pattern) of(t []cell) []cell {
	if p.turn() {
		return places(variable(p.variableOf(t)))
	}
	u := places(t[0])
	for _, arg := range plainArgs(t) {
		u = append(u, p.of(arg)...)
	}
	return u
}

func (p *pattern) variableOf(t []cell) int {
	known := slices.IndexFunc(p.s, func(b binding) bool { return slices.Equal(b.Term, t) })
	if known >= 0 && !p.apart() {
		return p.s[known].Var
	}
	p.s = append(p.s, binding{Var: len(p.s), Term: t})
	return len(p.s) - 1
}

// together is what all of some terms are by bindings, one behind the other; nothing, if one is too big.
func together(s []binding, terms ...[]cell) []cell {
	var all []cell
	for _, x := range terms {
		u, ok := impl.SubFull(s, x)
		if !ok {
			return nil
		}
		all = append(all, u...)
	}
	return all
}

// TestEitherWayIsTheSame: promise 16.
func TestEitherWayIsTheSame(t *testing.T) {
	var seen tried
	for _, q := range someAsked() {
		one, how := impl.SubUnify(q.s, q.a, q.b)
		other, code := impl.SubUnify(q.s, q.b, q.a)
		seen.count(how)
		if how != code {
			t.Errorf("%v: %d, but %d the other way", q, how, code)
			continue
		}
		if how == impl.SubDone {
			x, y := together(one, q.a, q.b), together(other, q.a, q.b)
			if x == nil || !alikeButForNumbers(x, y) || !impl.TrmSame(impl.TrmCanon(x), impl.TrmCanon(y)) {
				t.Errorf("%v: %v, but %v the other way", q, x, y)
			}
		}
		if self, how := impl.SubUnify(q.s, q.a, q.a); how == impl.SubDone && !sameBinds(self, q.s) || how == impl.SubApart {
			t.Errorf("%v: of one and itself it is %s, %d", q, showBinds(self), how)
		}
	}
	seen.atLeast(t, 2000, 2000, 500)
}

// TestApartStaysApart: promise 17.
func TestApartStaysApart(t *testing.T) {
	r := steady()
	var alone, with tried
	for _, q := range someAsked() {
		_, how := impl.SubUnify(nil, q.a, q.b)
		alone.count(how)
		if how != impl.SubApart {
			continue
		}
		for _, s := range [][]binding{q.s, fewBinds(r, 3), fewBinds(r, 3)} {
			then, how := impl.SubUnify(s, q.a, q.b)
			with.count(how)
			if how != impl.SubApart && how != impl.SubBig {
				t.Errorf("%v: %s, %d", asked{s, q.a, q.b}, showBinds(then), how)
			}
		}
	}
	alone.atLeast(t, 1000, 1000, 0)
	with.atLeast(t, 0, 1000, 10)
}

// TestVariableCanBeWhateverDoesNotHoldIt: promise 63.
func TestVariableCanBeWhateverDoesNotHoldIt(t *testing.T) {
	for _, x := range someTerms() {
		for _, v := range []int{0, 1, 7, impl.TrmVars} {
			alone := places(variable(v))
			want, code := []binding{{Var: v, Term: x}}, impl.SubDone
			if slices.Contains(plainFree(x), v) {
				want, code = nil, impl.SubApart
			}
			if slices.Equal(x, alone) {
				code = impl.SubDone
			}
			one, how := impl.SubUnify(nil, alone, x)
			if how != code || !sameBinds(one, want) {
				t.Errorf("%v: %s, %d", asked{nil, alone, x}, showBinds(one), how)
			}
			if x[0].Kind == impl.TrmVar && how == impl.SubDone && len(want) > 0 {
				want = []binding{{Var: x[0].N, Term: alone}}
			}
			other, how := impl.SubUnify(nil, x, alone)
			if how != code || !sameBinds(other, want) {
				t.Errorf("%v: %s, %d", asked{nil, x, alone}, showBinds(other), how)
			}
		}
	}
	for _, v := range []int{0, 5, impl.TrmVars} {
		for n := 1; n < impl.TrmMost; n++ {
			around := append(slices.Repeat(places(name("g", 1)), n), variable(v))
			checkCode(t, nil, places(variable(v)), around, impl.SubApart)
			checkCode(t, nil, around, places(variable(v)), impl.SubApart)
		}
	}
}

// TestNamesAreTheSameIfTheirArgumentsAre: promise 64.
func TestNamesAreTheSameIfTheirArgumentsAre(t *testing.T) {
	var seen tried
	for _, q := range someAsked() {
		if q.a[0] != q.b[0] || q.a[0].Kind != impl.TrmFun {
			continue
		}
		then, how := impl.SubUnify(q.s, q.a, q.b)
		one, code := oneByOne(q.s, plainArgs(q.a), plainArgs(q.b))
		if how == impl.SubBig || code == impl.SubBig {
			seen.count(impl.SubBig)
			continue
		}
		seen.count(how)
		if how != code || !sameBinds(then, one) {
			t.Errorf("%v: %s, %d, but one by one %s, %d", q, showBinds(then), how, showBinds(one), code)
		}
	}
	seen.atLeast(t, 1000, 1000, 100)
}

// oneByOne makes each of one list the same as that of another one, as long as that can be.
func oneByOne(s []binding, a, b [][]cell) ([]binding, int) {
	how := impl.SubDone
	for k := range a {
		if s, how = impl.SubUnify(s, a[k], b[k]); how != impl.SubDone {
			return nil, how
		}
	}
	return s, how
}

// TestOrderOfPairsMakesNoDifference: promise 86.
func TestOrderOfPairsMakesNoDifference(t *testing.T) {
	r := steady()
	var seen tried
	for _, q := range someAsked() {
		c, d := fewTerm(r, 1+r.IntN(12), fewVars()), fewTerm(r, 1+r.IntN(12), fewVars())
		one, how := oneByOne(q.s, [][]cell{q.a, c}, [][]cell{q.b, d})
		other, code := oneByOne(q.s, [][]cell{c, q.a}, [][]cell{d, q.b})
		if how == impl.SubBig || code == impl.SubBig {
			seen.count(impl.SubBig)
			continue
		}
		seen.count(how)
		if how != code {
			t.Errorf("%v, and then %v: %d, but %d the other way", q, asked{nil, c, d}, how, code)
		}
		if how != impl.SubDone {
			continue
		}
		x, y := together(one, q.a, q.b, c, d), together(other, q.a, q.b, c, d)
		if !alikeButForNumbers(x, y) {
			t.Errorf("%v, and then %v: %v, but %v the other way", q, asked{nil, c, d}, x, y)
		}
	}
	seen.atLeast(t, 500, 1000, 100)
}

// TestWithoutVariables: promise 87.
func TestWithoutVariables(t *testing.T) {
	r := steady()
	var seen, plain tried
	for k := range 20000 {
		ground := fewTerm(r, 1+r.IntN(impl.TrmMost), nil)
		p := pattern{turn: func() bool { return r.IntN(6) == 0 }, apart: func() bool { return r.IntN(3) > 0 }}
		x := p.of(ground)
		if k%2 == 0 {
			x = otherwise(x, func() bool { return r.IntN(8) == 0 }, func() []cell { return fewTerm(r, 1, []int{0, 1, 2}) })
		}
		then, how := impl.SubUnify(nil, x, ground)
		seen.count(how)
		if u, _ := impl.SubFull(then, x); how == impl.SubDone && !impl.TrmSame(u, ground) {
			t.Errorf("%v: the first one is then %s", asked{nil, x, ground}, impl.TrmText(u))
		}
		for _, other := range [][]cell{fewTerm(r, 1+r.IntN(3), nil), slices.Clone(ground), otherwise(ground, func() bool { return r.IntN(len(ground)) == 0 }, func() []cell { return fewTerm(r, 1, nil) })} {
			then, how := impl.SubUnify(nil, ground, other)
			plain.count(how)
			if (how == impl.SubDone) != impl.TrmSame(ground, other) || how == impl.SubBig || len(then) != 0 {
				t.Errorf("%v: %s, %s", asked{nil, ground, other}, showBinds(then), strconv.Itoa(how))
			}
		}
	}
	seen.atLeast(t, 2000, 1000, 0)
	plain.atLeast(t, 20000, 10000, 0)
}
