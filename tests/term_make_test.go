package tests

import (
	"math"
	"math/rand/v2"
	"slices"
	"strings"
	"testing"

	"loop.example/catechist/impl"
)

type cell = impl.TrmCell

func variable(n int) cell { return cell{Kind: impl.TrmVar, N: n} }

func number(n int) cell { return cell{Kind: impl.TrmNum, N: n} }

func name(s string, arity int) cell { return cell{Kind: impl.TrmFun, N: arity, Name: s} }

func places(cells ...cell) []cell { return cells }

// chain is one name within the other, so many places in all, with an atom at the end.
func chain(n int) []cell {
	var t []cell
	for range n - 1 {
		t = append(t, name("f", 1))
	}
	return append(t, name("a", 0))
}

// wide is a term of so many places in all, 3k + 1 of them, each name with three arguments.
func wide(n int) []cell {
	var t []cell
	for range (n - 1) / 3 {
		t = append(t, name("g", 3), number(7), variable(len(t)))
	}
	return append(t, name("a", 0))
}

// edgeTerms are terms, ordinary ones and such as are just within a bound.
func edgeTerms() [][]cell {
	return [][]cell{
		places(variable(0)),
		places(variable(1)),
		places(variable(10)),
		places(variable(impl.TrmVars)),
		places(number(0)),
		places(number(5)),
		places(number(-7)),
		places(number(100)),
		places(number(impl.TrmNums)),
		places(number(-impl.TrmNums)),
		places(name("a", 0)),
		places(name("z", 0)),
		places(name("abcdefgh", 0)),
		places(name("zzzzzzzz", 3), name("a", 0), variable(3), number(2)),
		places(name("f", 1), variable(2)),
		places(name("f", 2), variable(5), variable(5)),
		places(name("f", 2), variable(7), variable(5)),
		places(name("f", 3), variable(2), variable(0), variable(2)),
		places(name("f", 3), variable(3), name("g", 2), name("a", 0), number(-7), variable(3)),
		places(name("f", 2), name("f", 2), variable(1), variable(0), name("f", 1), variable(1)),
		places(name("f", 2), variable(impl.TrmVars), variable(0)),
		places(name("p", 3), variable(4), variable(5), name("p", 2), variable(6), variable(4)),
		chain(impl.TrmMost - 1),
		chain(impl.TrmMost),
		wide(impl.TrmMost),
	}
}

// wrongPlaces are places that are no term.
func wrongPlaces() [][]cell {
	return [][]cell{
		nil,
		{},
		places(cell{}),
		places(cell{Kind: 0, N: 1}),
		places(cell{Kind: 4, N: 0, Name: "a"}),
		places(cell{Kind: -1}),
		places(cell{Kind: 1 << 40}),
		places(variable(-1)),
		places(variable(impl.TrmVars + 1)),
		places(number(impl.TrmNums + 1)),
		places(number(-impl.TrmNums - 1)),
		places(cell{Kind: impl.TrmVar, N: 1, Name: "a"}),
		places(cell{Kind: impl.TrmNum, N: 1, Name: "a"}),
		places(name("", 0)),
		places(name("abcdefghi", 0)),
		places(name("A", 0)),
		places(name("aB", 0)),
		places(name("a1", 0)),
		places(name("a b", 0)),
		places(name("a\x00", 0)),
		places(name("`", 0)),
		places(name("{", 0)),
		places(name("\u00e4", 0)),
		places(name("a\xff", 0)),
		places(name("a", -1)),
		places(name("f", 2), name("a", -1)),
		places(name("f", 3), number(1), name("a", -1)),
		places(name("a", math.MinInt)),
		places(name("a", math.MaxInt)),
		places(variable(math.MinInt)),
		places(number(math.MinInt)),
		places(name("f", 1)),
		places(name("f", 2), variable(0)),
		places(name("f", 2), name("f", 2), variable(0), variable(0)),
		places(name("f", 4), number(1), number(2), number(3), number(4)),
		places(name("f", 1), cell{}),
		places(name("f", 2), number(1), variable(-1)),
		places(name("a", 0), name("a", 0)),
		places(variable(0), variable(0)),
		places(variable(2), number(1), number(2)),
		places(number(1), number(2)),
		places(name("f", 1), variable(0), variable(1)),
		places(variable(0), cell{}),
		chain(impl.TrmMost + 1),
		wide(impl.TrmMost + 3),
		chain(100000),
	}
}

// steady is a source of numbers that gives the same ones each time.
func steady() *rand.Rand { return rand.New(rand.NewPCG(1, 2)) }

func madeName(r *rand.Rand) string {
	var s strings.Builder
	for range 1 + r.IntN(impl.TrmName) {
		s.WriteByte(byte('a' + r.IntN(26)))
	}
	return s.String()
}

func madeLeaf(r *rand.Rand) cell {
	switch r.IntN(5) {
	case 0:
		return variable(r.IntN(4))
	case 1:
		return variable(r.IntN(impl.TrmVars + 1))
	case 2:
		return number(r.IntN(2*impl.TrmNums+1) - impl.TrmNums)
	}
	return name(madeName(r), 0)
}

// madeTerm is a term of at most so many places.
func madeTerm(r *rand.Rand, most int) []cell {
	if most < 2 || r.IntN(5) == 0 {
		return places(madeLeaf(r))
	}
	arity := 1 + r.IntN(min(impl.TrmArity, most-1))
	t := places(name(madeName(r), arity))
	for k := range arity {
		left := most - len(t) - (arity - 1 - k)
		t = append(t, madeTerm(r, left)...)
	}
	return t
}

// someTerms are the terms at the edges, and a thousand made ones.
func someTerms() [][]cell {
	r, all := steady(), edgeTerms()
	for range 1000 {
		all = append(all, madeTerm(r, 1+r.IntN(impl.TrmMost)))
	}
	return all
}

// anyPlaces are places of any sort, few of which are a term.
func anyPlaces(r *rand.Rand) []cell {
	var t []cell
	for range r.IntN(12) {
		c := madeLeaf(r)
		if r.IntN(3) == 0 {
			c.Kind = r.IntN(6) - 1
		}
		if r.IntN(3) == 0 {
			c.N = r.IntN(7) - 3
		}
		t = append(t, c)
	}
	return t
}

// allArgs asks for each argument of a name with so many.
func allArgs(t []cell) [][]cell {
	var args [][]cell
	if t[0].Kind == impl.TrmFun {
		for k := range t[0].N {
			args = append(args, impl.TrmArg(t, k))
		}
	}
	return args
}

// turned is places with each variable as a function says.
func turned(t []cell, turn func(int) int) []cell {
	u := slices.Clone(t)
	for i, c := range u {
		if c.Kind == impl.TrmVar {
			u[i].N = turn(c.N)
		}
	}
	return u
}

func greatestVar(t []cell) int {
	greatest := 0
	for _, c := range t {
		if c.Kind == impl.TrmVar {
			greatest = max(greatest, c.N)
		}
	}
	return greatest
}

func TestMadeTermsAreOfAllSizes(t *testing.T) {
	sizes := map[int]int{}
	for _, x := range someTerms() {
		sizes[len(x)]++
	}
	for n := 1; n <= impl.TrmMost; n++ {
		if sizes[n] == 0 {
			t.Errorf("no term of %d places is tried", n)
		}
	}
}
