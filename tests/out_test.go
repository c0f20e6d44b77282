package tests

import (
	"math"
	"slices"
	"testing"

	"loop.example/catechist/impl"
)

// plainOutOk asks by the document's words: the question's variables are as many on as the term has places.
func plainOutOk(top []cell, o outcome) bool {
	switch {
	case !plainQuestion(top):
		return false
	case plainEnded(o.Status):
		return len(o.Term) == 0
	case o.Status != impl.SlvAnswer || !impl.TrmOk(o.Term) || !slices.Equal(plainCanon(o.Term), o.Term):
		return false
	}
	_, can := plainSame(nil, turned(top, func(v int) int { return v + len(o.Term) }), o.Term)
	return can
}

func plainOutText(top []cell, o outcome) string {
	if !plainOutOk(top, o) {
		return ""
	}
	if o.Status == impl.SlvAnswer {
		return impl.TrmText(o.Term)
	}
	return map[int]string{impl.SlvNone: "none", impl.SlvBig: "too big", impl.SlvWrong: "wrong"}[o.Status]
}

func checkOut(t *testing.T, top []cell, o outcome) bool {
	t.Helper()
	want := plainOutOk(top, o)
	if got := impl.OutOk(top, o); got != want {
		t.Errorf("%v of %v: %t", o, top, got)
	}
	if got, want := impl.OutText(top, o), plainOutText(top, o); got != want {
		t.Errorf("%v of %v: %q, want %q", o, top, got, want)
	}
	return want
}

// TestOutcomesByHand: what may be an outcome of a question, and its text.
func TestOutcomesByHand(t *testing.T) {
	for _, one := range []struct {
		top, term string
		ok        bool
	}{
		{"p(X0)", "p(a)", true}, {"p(X0)", "p(X0)", true}, {"p(X0)", "p(f(X0,X1))", true}, {"p(X0)", "p(g(X0))", true}, {"p(X0,X0)", "p(X0,X0)", true}, {"p(X0,X1)", "p(X0,X0)", true},
		{"p(X0,X0)", "p(a,a)", true}, {"p(a)", "p(a)", true}, {"z", "z", true}, {"p(X0,g(X0))", "p(X0,X1)", true}, {"p(a)", "p(X0)", true}, {"p(X0)", "X0", true},
		{"p(X0)", "p(X1)", false}, {"p(X0)", "q(a)", false}, {"p(X0)", "p", false}, {"p(X0)", "p(a,b)", false}, {"p(X0,X0)", "p(a,b)", false}, {"p(a)", "p(b)", false}, {"p(X0,X1)", "p(X1,X0)", false},
		{"p(X0,X0)", "p(X0,g(X0))", false}, {"p(X0,g(X0))", "p(X0,X0)", false}, {"p(X0)", "0", false}, {"z", "a", false}, {"p(1)", "p(2)", false},
		{"X0", "X0", false}, {"1", "1", false}, {"p(X1)", "p(a)", false}, {"p(X1,X0)", "p(a,b)", false},
	} {
		o := outcome{Status: impl.SlvAnswer, Term: read(one.term)}
		if ok := checkOut(t, read(one.top), o); ok != one.ok {
			t.Errorf("%s of %s: %t", one.term, one.top, ok)
		}
		want := one.term
		if !one.ok {
			want = ""
		}
		if got := impl.OutText(read(one.top), o); got != want {
			t.Errorf("%s of %s has the text %q", one.term, one.top, got)
		}
	}
	top := read("p(X0)")
	for status, want := range map[int]string{impl.SlvNone: "none", impl.SlvBig: "too big", impl.SlvWrong: "wrong", impl.SlvGoes: "", impl.SlvAnswer: "", impl.SlvWaits: "", 0: "", -1: "", 7: "", math.MaxInt: "", math.MinInt: ""} {
		if got := impl.OutText(top, outcome{Status: status}); got != want || impl.OutOk(top, outcome{Status: status}) != (want != "") {
			t.Errorf("%d without a term has the text %q", status, got)
		}
		if got := impl.OutText(top, outcome{Status: status, Term: read("p(a)")}); (got != "") != (status == impl.SlvAnswer) {
			t.Errorf("%d with a term has the text %q", status, got)
		}
	}
}

// TestOutcomesAtTheEdges: the greatest terms, and such as can be the same only if that is too big for a term.
func TestOutcomesAtTheEdges(t *testing.T) {
	row := func(first, last cell) []cell {
		t := places(name("f", 2), first)
		for range 3 {
			t = append(t, name("h", 3), variable(0), variable(0))
		}
		return append(t, last)
	}
	ok := 0
	for _, top := range [][]cell{chain(impl.TrmMost), append(places(name("f", 1)), variable(0)), manyVars(), row(variable(0), variable(0)), row(chain(1)[0], variable(0)), row(variable(0), number(1))} {
		for _, term := range [][]cell{chain(impl.TrmMost), chain(impl.TrmMost + 1), manyVars(), row(variable(0), variable(0)), row(number(1), variable(0)), slices.Concat(places(name("f", 2)), chain(20), chain(19)), slices.Concat(places(name("f", 2)), chain(20), chain(20))} {
			top, term := plainCanon(top), plainCanon(term)
			if checkOut(t, top, outcome{Status: impl.SlvAnswer, Term: term}) {
				ok++
			}
		}
	}
	// X0 is h(X1,X1,X1), and that 13 times in what both are.
	top := plainCanon(append(places(name("f", 2)), slices.Concat(wideVars(6), places(variable(0)))...))
	term := plainCanon(slices.Concat(places(name("f", 2)), places(variable(1)), places(name("h", 3), variable(0), variable(0), variable(0))))
	if !checkOut(t, top, outcome{Status: impl.SlvAnswer, Term: term}) {
		t.Errorf("what is too big is no outcome: %v of %v", term, top)
	}
	if _, how := impl.SubUnify(nil, impl.TrmShift(top, len(term)), term); how != impl.SubBig {
		t.Errorf("it is not too big: %d", how)
	}
	if ok < 5 {
		t.Errorf("only %d are ok", ok)
	}
}

// wideVars is a term of so many names with three arguments each, and one variable alone.
func wideVars(n int) []cell {
	var t []cell
	for range n {
		t = append(t, name("h", 3), variable(0), variable(0))
	}
	return append(t, variable(0))
}

func TestOutcomesOfMadeTerms(t *testing.T) {
	r, ok, wrong := steady(), 0, 0
	for range 20000 {
		top := append(places(name("p", 2)), append(fewTerm(r, 6, []int{0, 1, 2}), fewTerm(r, 6, []int{0, 1, 2})...)...)
		term := append(places(name("p", 2)), append(fewTerm(r, 6, []int{0, 1, 2}), fewTerm(r, 6, []int{0, 1, 2})...)...)
		if r.IntN(10) > 0 {
			top = plainCanon(top)
		}
		if r.IntN(10) > 0 {
			term = plainCanon(term)
		}
		o := outcome{Status: impl.SlvAnswer, Term: term}
		if r.IntN(8) == 0 {
			o.Status = r.IntN(9) - 1
		}
		if r.IntN(8) == 0 {
			o.Term = anyPlaces(r)
		}
		if checkOut(t, top, o) {
			ok++
		} else {
			wrong++
		}
	}
	if ok < 2000 || wrong < 2000 {
		t.Errorf("only %d are ok, %d are not", ok, wrong)
	}
	for _, x := range wrongPlaces() {
		for status := -1; status < 8; status++ {
			if checkOut(t, x, outcome{Status: status}) || checkOut(t, x, outcome{Status: status, Term: read("a")}) {
				t.Errorf("%.200v is a question", x)
			}
			if len(x) > 0 && checkOut(t, read("a"), outcome{Status: status, Term: x}) {
				t.Errorf("%.200v is an outcome", x)
			}
		}
	}
}

// TestOutcomesThatDifferHaveTwoTexts: promise 55, of what solving tells.
func TestOutcomesThatDifferHaveTwoTexts(t *testing.T) {
	for _, q := range somePosed(300) {
		outs, _ := impl.SlvOuts(q.p, q.top, 9, 100)
		for k, a := range outs {
			for _, b := range outs[:k] {
				if (impl.OutText(q.top, a) == impl.OutText(q.top, b)) != sameOuts([]outcome{a}, []outcome{b}) {
					t.Errorf("%v and %v of %v", a, b, q)
				}
			}
			if impl.OutText(q.top, a)+"; " != showOuts(outs[k:k+1]) {
				t.Errorf("%v of %v has the text %q", a, q, impl.OutText(q.top, a))
			}
		}
	}
}
