package tests

import (
	"slices"
	"strconv"
	"testing"

	"loop.example/catechist/impl"
)

// guarded is a list with room behind its end, in which anybody who writes there is seen.
type guarded struct {
	all, before []cell
	n           int
}

func guard(t []cell) *guarded {
	room := slices.Repeat([]cell{{Kind: 77, N: 77, Name: "guard"}}, 50)
	all := append(slices.Clone(t), room...)
	return &guarded{all: all, before: slices.Clone(all), n: len(t)}
}

func (g *guarded) list() []cell { return g.all[:g.n] }

func (g *guarded) untouched() bool { return slices.Equal(g.all, g.before) }

func (g *guarded) scribble() {
	for i := range g.all {
		g.all[i] = cell{Kind: 88, N: 88, Name: "turned"}
	}
}

// checkApart writes over an answer, spare room included, and then over what was given, and looks at the other each time.
func checkApart[E comparable](t *testing.T, what string, answer []E, other E, given []*guarded) {
	t.Helper()
	for _, g := range given {
		if !g.untouched() {
			t.Errorf("%s: something is written into an argument", what)
		}
	}
	was := slices.Clone(answer)
	full := answer[:cap(answer)]
	for i := range full {
		full[i] = other
	}
	for _, g := range given {
		if !g.untouched() {
			t.Errorf("%s: the answer lies in an argument", what)
		}
	}
	copy(answer, was)
	for _, g := range given {
		g.scribble()
	}
	if !slices.Equal(answer, was) {
		t.Errorf("%s: an argument lies in the answer", what)
	}
}

func TestAnswersAreNewMemory(t *testing.T) {
	other := cell{Kind: 99, N: 99, Name: "other"}
	for i, x := range slices.Concat(edgeTerms(), wrongPlaces()) {
		at := " of list " + strconv.Itoa(i)
		for k := range impl.TrmArity {
			g := guard(x)
			checkApart(t, "TrmArg"+at, impl.TrmArg(g.list(), k), other, []*guarded{g})
		}
		for _, n := range []int{0, 1, 2, impl.TrmVars + 1} {
			g := guard(x)
			checkApart(t, "TrmShift"+at, impl.TrmShift(g.list(), n), other, []*guarded{g})
		}
		g := guard(x)
		checkApart(t, "TrmCanon"+at, impl.TrmCanon(g.list()), other, []*guarded{g})
		g = guard(x)
		checkApart(t, "TrmFree"+at, impl.TrmFree(g.list()), -99, []*guarded{g})
		g, h := guard(x), guard(x)
		impl.TrmOk(g.list())
		impl.TrmText(g.list())
		impl.TrmSame(g.list(), h.list())
		checkApart(t, "what answers no list"+at, nil, other, []*guarded{g, h})
	}
}

func TestMakeIsNewMemory(t *testing.T) {
	other := cell{Kind: 99, N: 99, Name: "other"}
	terms := edgeTerms()
	for i, x := range terms {
		of := [][]cell{x, terms[(i+1)%len(terms)], chain(2)}
		for n := range len(of) + 1 {
			var given []*guarded
			var args [][]cell
			for _, y := range of[:n] {
				g := guard(y)
				given, args = append(given, g), append(args, g.list())
			}
			checkOneMake(t, args, given, other)
		}
	}
}

// checkOneMake looks also at the list of arguments itself, and behind its end.
func checkOneMake(t *testing.T, args [][]cell, given []*guarded, other cell) {
	t.Helper()
	marker := places(name("behind", 0))
	roomy := append(slices.Clone(args), marker, marker)
	made := impl.TrmMake("f", roomy[:len(args)])
	for i, a := range roomy {
		want := marker
		if i < len(args) {
			want = args[i]
		}
		if len(a) != len(want) || len(a) > 0 && &a[0] != &want[0] {
			t.Errorf("the list of arguments is written into at %d", i)
		}
	}
	checkApart(t, "TrmMake", made, other, given)
}

// TestNothingIsKept: what is done to one answer is not seen in the next one.
func TestNothingIsKept(t *testing.T) {
	x := places(name("f", 3), variable(3), name("g", 2), name("a", 0), number(-7), variable(4))
	asked := map[string]func() []cell{
		"TrmRead":  func() []cell { y, _ := impl.TrmRead("f(X3,g(a,-7),X4)"); return y },
		"TrmMake":  func() []cell { return impl.TrmMake("f", [][]cell{x, x}) },
		"TrmArg":   func() []cell { return impl.TrmArg(x, 1) },
		"TrmShift": func() []cell { return impl.TrmShift(x, 2) },
		"TrmCanon": func() []cell { return impl.TrmCanon(x) },
	}
	for what, ask := range asked {
		first := ask()
		was := slices.Clone(first)
		full := first[:cap(first)]
		for i := range full {
			full[i] = cell{Kind: 99}
		}
		if second := ask(); len(second) == 0 || !slices.Equal(second, was) {
			t.Errorf("%s: %v, and then %v", what, was, second)
		}
	}
}
