package tests

import (
	"math"
	"slices"
	"strings"
	"testing"

	"loop.example/catechist/impl"
)

func TestTermOk(t *testing.T) {
	for _, x := range someTerms() {
		if !impl.TrmOk(x) {
			t.Errorf("a term is not ok: %v", x)
		}
	}
	for _, x := range wrongPlaces() {
		if impl.TrmOk(x) {
			t.Errorf("no term, but ok: %v", x)
		}
	}
}

// TestWrongPlaces: of places that are no term all that asks for one answers none.
func TestWrongPlaces(t *testing.T) {
	for _, x := range wrongPlaces() {
		if s := impl.TrmText(x); s != "" {
			t.Errorf("text %q of %v", s, x)
		}
		for _, n := range []int{-1, 0, 1} {
			if u := impl.TrmShift(x, n); len(u) != 0 {
				t.Errorf("shift of %v by %d is %v", x, n, u)
			}
			if u := impl.TrmArg(x, n); len(u) != 0 {
				t.Errorf("argument %d of %v is %v", n, x, u)
			}
		}
		for _, args := range [][][]cell{{x}, {chain(1), x}, {x, chain(1), chain(2)}} {
			if u := impl.TrmMake("f", args); len(u) != 0 {
				t.Errorf("made of an argument that is none: %v", u)
			}
		}
	}
}

// TestNameWithArguments: promise 10.
func TestNameWithArguments(t *testing.T) {
	for _, x := range someTerms() {
		args := allArgs(x)
		if x[0].Kind == impl.TrmFun {
			if y := impl.TrmMake(x[0].Name, args); !slices.Equal(y, x) {
				t.Errorf("%v, made of its arguments, is %v", x, y)
			}
		}
		for k, a := range args {
			if len(a) == 0 {
				t.Errorf("%v has no argument %d", x, k)
			}
		}
		beyond := len(args)
		for _, k := range []int{-1, math.MinInt, beyond, beyond + 1, impl.TrmArity, len(x), math.MaxInt} {
			if a := impl.TrmArg(x, k); len(a) != 0 {
				t.Errorf("%v has an argument %d: %v", x, k, a)
			}
		}
	}
}

func TestArgumentByHand(t *testing.T) {
	x := places(name("f", 3), variable(3), name("g", 2), name("a", 0), number(-7), variable(4))
	want := [][]cell{places(variable(3)), places(name("g", 2), name("a", 0), number(-7)), places(variable(4))}
	for k, w := range want {
		if a := impl.TrmArg(x, k); !slices.Equal(a, w) {
			t.Errorf("argument %d is %v, want %v", k, a, w)
		}
	}
	// What a variable's or number's N is says nothing of arguments.
	for _, y := range [][]cell{places(variable(2)), places(number(2))} {
		if a := impl.TrmArg(y, 0); len(a) != 0 {
			t.Errorf("%v has the argument %v", y, a)
		}
	}
}

// TestMadeHasItsArguments: promise 11.
func TestMadeHasItsArguments(t *testing.T) {
	r := steady()
	for range 2000 {
		var args [][]cell
		size := 1
		for range r.IntN(impl.TrmArity + 1) {
			args = append(args, madeTerm(r, 1+r.IntN(20)))
			size += len(args[len(args)-1])
		}
		made := impl.TrmMake("make", args)
		if size > impl.TrmMost {
			if len(made) != 0 {
				t.Errorf("%d places are made", size)
			}
			continue
		}
		if len(made) != size || made[0] != name("make", len(args)) {
			t.Fatalf("of %v is made %v", args, made)
		}
		for k, a := range args {
			if got := impl.TrmArg(made, k); !slices.Equal(got, a) {
				t.Errorf("argument %d of %v is %v, was given %v", k, made, got, a)
			}
		}
	}
}

// TestPiecesAreNoArguments: pieces that are a term together, but none by themselves.
func TestPiecesAreNoArguments(t *testing.T) {
	for _, args := range [][][]cell{
		{places(name("f", 1)), places(number(1), number(2))},
		{places(number(1), number(2)), nil},
		{nil, places(number(1), number(2))},
		{places(name("f", 2)), places(number(1)), places(number(2), number(3))},
		{nil},
		{{}, {}, {}},
	} {
		if made := impl.TrmMake("f", args); len(made) != 0 {
			t.Errorf("of %v is made %v", args, made)
		}
	}
}

func TestMakeAtTheEdges(t *testing.T) {
	one := places(number(1))
	for _, s := range []string{"a", "z", "abcdefgh", strings.Repeat("z", impl.TrmName)} {
		if made := impl.TrmMake(s, nil); !slices.Equal(made, places(name(s, 0))) {
			t.Errorf("of %q is made %v", s, made)
		}
	}
	for _, s := range []string{"", "abcdefghi", "A", "aB", "a1", "a ", " a", "a,b", "a\x00", "`", "{", "X0", "-1", "\u00e4", "a\xff"} {
		for _, args := range [][][]cell{nil, {one}} {
			if made := impl.TrmMake(s, args); len(made) != 0 {
				t.Errorf("of the name %q is made %v", s, made)
			}
		}
	}
	if made := impl.TrmMake("f", [][]cell{one, one, one}); !slices.Equal(made, places(name("f", 3), number(1), number(1), number(1))) {
		t.Errorf("of three arguments is made %v", made)
	}
	for _, n := range []int{impl.TrmArity + 1, 39, 1000} {
		if made := impl.TrmMake("f", slices.Repeat([][]cell{one}, n)); len(made) != 0 {
			t.Errorf("of %d arguments is made %v", n, made)
		}
	}
	if made := impl.TrmMake("f", [][]cell{chain(impl.TrmMost - 1)}); !slices.Equal(made, chain(impl.TrmMost)) {
		t.Errorf("the greatest term is made as %v", made)
	}
	if made := impl.TrmMake("f", [][]cell{chain(impl.TrmMost)}); len(made) != 0 {
		t.Errorf("one place too many: %v", made)
	}
	if made := impl.TrmMake("f", [][]cell{chain(20), chain(19)}); len(made) != impl.TrmMost {
		t.Errorf("two arguments of 39 places: %v", made)
	}
	if made := impl.TrmMake("f", [][]cell{chain(20), chain(20)}); len(made) != 0 {
		t.Errorf("two arguments of 40 places: %v", made)
	}
}

// TestShiftGoesOn: promise 13.
func TestShiftGoesOn(t *testing.T) {
	steps := []int{0, 1, 2, 7, 50000, impl.TrmVars}
	for _, x := range someTerms() {
		if y := impl.TrmShift(x, 0); !slices.Equal(y, x) {
			t.Errorf("%v, none on, is %v", x, y)
		}
		for _, n := range steps {
			want := turned(x, func(v int) int { return v + n })
			if greatestVar(want) > impl.TrmVars {
				want = nil
			}
			once := impl.TrmShift(x, n)
			if !slices.Equal(once, want) {
				t.Errorf("%v, %d on, is %v", x, n, once)
			}
			for _, m := range steps {
				twice, both := impl.TrmShift(once, m), impl.TrmShift(x, n+m)
				if len(twice) != 0 && len(both) != 0 && !slices.Equal(twice, both) {
					t.Errorf("%v, %d and %d on, is %v and %v", x, n, m, twice, both)
				}
			}
		}
	}
}

func TestShiftAtTheEdges(t *testing.T) {
	ground := places(name("f", 1), number(-3))
	for _, n := range []int{-1, math.MinInt, impl.TrmVars + 1, math.MaxInt} {
		for _, x := range [][]cell{ground, places(variable(0)), places(variable(impl.TrmVars))} {
			if y := impl.TrmShift(x, n); len(y) != 0 {
				t.Errorf("%v, %d on, is %v", x, n, y)
			}
		}
	}
	if y := impl.TrmShift(ground, impl.TrmVars); !slices.Equal(y, ground) {
		t.Errorf("without variables it is turned to %v", y)
	}
	if y := impl.TrmShift(places(variable(0)), impl.TrmVars); !slices.Equal(y, places(variable(impl.TrmVars))) {
		t.Errorf("the first variable as far as can be is %v", y)
	}
	tooFar := places(name("f", 2), variable(0), variable(1))
	if y := impl.TrmShift(tooFar, impl.TrmVars); len(y) != 0 {
		t.Errorf("one variable is too far: %v", y)
	}
}

// plainFree is the variables by looking back at all that came before.
func plainFree(t []cell) []int {
	var free []int
	for _, c := range t {
		if c.Kind == impl.TrmVar && !slices.Contains(free, c.N) {
			free = append(free, c.N)
		}
	}
	return free
}

// TestFreeTellsEachOnce: promise 14.
func TestFreeTellsEachOnce(t *testing.T) {
	for _, x := range someTerms() {
		if got, want := impl.TrmFree(x), plainFree(x); !slices.Equal(got, want) {
			t.Errorf("variables of %v are %v, want %v", x, got, want)
		}
	}
	x := places(name("f", 3), variable(9), name("g", 3), variable(4), number(2), variable(9), variable(0))
	if got := impl.TrmFree(x); !slices.Equal(got, []int{9, 4, 0}) {
		t.Errorf("variables are %v", got)
	}
	if got := impl.TrmFree(places(name("f", 2), number(1), name("a", 0))); len(got) != 0 {
		t.Errorf("variables are %v, where there are none", got)
	}
}

// TestCanonNumbersFromNought: promise 12.
func TestCanonNumbersFromNought(t *testing.T) {
	for _, x := range someTerms() {
		canon, free := impl.TrmCanon(x), plainFree(x)
		want := turned(x, func(v int) int { return slices.Index(free, v) })
		if !slices.Equal(canon, want) {
			t.Fatalf("%v is %v, want %v", x, canon, want)
		}
		if !impl.TrmOk(canon) || !slices.Equal(impl.TrmCanon(canon), canon) {
			t.Errorf("of %v twice is not as once", x)
		}
		for i, v := range impl.TrmFree(canon) {
			if v != i {
				t.Errorf("variable %d of %v is %d", i, canon, v)
			}
		}
		for _, n := range []int{1, 3, 1000} {
			if on := impl.TrmShift(x, n); len(on) != 0 && !slices.Equal(impl.TrmCanon(on), canon) {
				t.Errorf("%v, %d on, is another one", x, n)
			}
		}
	}
}

// alikeButForNumbers says whether the variables of one are those of the other, each as one of the other, both ways.
func alikeButForNumbers(a, b []cell) bool {
	if len(a) != len(b) {
		return false
	}
	there, back := map[int]int{}, map[int]int{}
	for i, c := range a {
		d := b[i]
		if c.Kind != impl.TrmVar || d.Kind != impl.TrmVar {
			if c != d {
				return false
			}
			continue
		}
		to, known := there[c.N]
		from, knownBack := back[d.N]
		if known && to != d.N || knownBack && from != c.N || c.Name != d.Name {
			return false
		}
		there[c.N], back[d.N] = d.N, c.N
	}
	return true
}

// smallTerms are all terms of one name with three arguments, each a variable in 0..3 or the number 1.
func smallTerms() [][]cell {
	leaves := []cell{variable(0), variable(1), variable(2), variable(3), number(1)}
	var all [][]cell
	for _, x := range leaves {
		for _, y := range leaves {
			for _, z := range leaves {
				all = append(all, places(name("f", 3), x, y, z))
			}
		}
	}
	return all
}

// TestCanonTellsWhetherTermsAreOne: promise 60.
func TestCanonTellsWhetherTermsAreOne(t *testing.T) {
	small := append(smallTerms(), edgeTerms()...)
	one, two := 0, 0
	for _, a := range small {
		for _, b := range small {
			want := alikeButForNumbers(a, b)
			if got := impl.TrmSame(impl.TrmCanon(a), impl.TrmCanon(b)); got != want {
				t.Errorf("%v and %v: %t, want %t", a, b, got, want)
			}
			if want {
				one++
			} else {
				two++
			}
		}
	}
	if one < len(small) || two < len(small) {
		t.Errorf("only %d pairs are one, %d are not", one, two)
	}
	for _, x := range someTerms() {
		inPairs := turned(x, func(v int) int { return v ^ 1 })
		if !impl.TrmSame(impl.TrmCanon(inPairs), impl.TrmCanon(x)) {
			t.Errorf("%v, turned about in pairs, is another one", x)
		}
		on := impl.TrmShift(x, 11)
		if len(on) != 0 && !impl.TrmSame(impl.TrmCanon(on), impl.TrmCanon(x)) {
			t.Errorf("%v, some on, is another one", x)
		}
	}
}

// TestPlacesAreJustATerms: promise 61.
func TestPlacesAreJustATerms(t *testing.T) {
	more := []cell{{}, variable(0), number(0), name("a", 0), name("f", 1)}
	for _, x := range someTerms() {
		for n := range x {
			if impl.TrmOk(x[:n]) {
				t.Errorf("the first %d places of %v are a term", n, x)
			}
		}
		for _, c := range more {
			if impl.TrmOk(append(slices.Clone(x), c)) {
				t.Errorf("%v with %v behind is a term", x, c)
			}
		}
	}
}

// TestArgumentsAreAllOfIt: promise 85.
func TestArgumentsAreAllOfIt(t *testing.T) {
	for _, x := range someTerms() {
		if x[0].Kind != impl.TrmFun {
			continue
		}
		var together []cell
		for _, a := range allArgs(x) {
			if !impl.TrmOk(a) {
				t.Errorf("%v has the argument %v", x, a)
			}
			together = append(together, a...)
		}
		if len(together)+1 != len(x) || !slices.Equal(together, x[1:]) {
			t.Errorf("%v has the arguments %v", x, together)
		}
		if made := impl.TrmMake(x[0].Name, allArgs(x)); !slices.Equal(made, x) {
			t.Errorf("%v is made as %v", x, made)
		}
	}
}

// TestAnyPlacesAreAnswered: TrmFree, TrmCanon and TrmSame ask for no term.
func TestAnyPlacesAreAnswered(t *testing.T) {
	r, all := steady(), wrongPlaces()
	for range 2000 {
		all = append(all, anyPlaces(r))
	}
	all = append(all,
		places(variable(-5), variable(math.MinInt), variable(-5), variable(math.MaxInt)),
		places(cell{Kind: impl.TrmVar, N: 4, Name: "a"}, variable(4), variable(3)),
	)
	for i, x := range all {
		free := plainFree(x)
		if got := impl.TrmFree(x); !slices.Equal(got, free) {
			t.Errorf("variables of %v are %v", x, got)
		}
		want := turned(x, func(v int) int { return slices.Index(free, v) })
		if got := impl.TrmCanon(x); !slices.Equal(got, want) {
			t.Errorf("canon of %v is %v", x, got)
		}
		y := all[(i+1)%len(all)]
		if !impl.TrmSame(x, slices.Clone(x)) || impl.TrmSame(x, y) != slices.Equal(x, y) {
			t.Errorf("of %v and %v it is not told whether they are the same", x, y)
		}
	}
}

func TestManyVariablesAreAnswered(t *testing.T) {
	const many = 300000
	var x []cell
	for i := range many {
		x = append(x, variable(2*(many-i)))
	}
	free, canon := impl.TrmFree(x), impl.TrmCanon(x)
	if len(free) != many || len(canon) != many {
		t.Fatal(len(free), len(canon))
	}
	for i := range many {
		if free[i] != x[i].N || canon[i] != variable(i) {
			t.Fatal(i, free[i], canon[i])
		}
	}
}

func TestSameIsPlaceByPlace(t *testing.T) {
	base := places(name("f", 2), variable(3), number(3))
	if !impl.TrmSame(base, slices.Clone(base)) || !impl.TrmSame(nil, []cell{}) || !impl.TrmSame([]cell{}, nil) {
		t.Error("the same, but told apart")
	}
	for _, other := range [][]cell{
		nil,
		base[:2],
		places(name("f", 2), variable(3), number(3), number(3)),
		places(name("g", 2), variable(3), number(3)),
		places(name("f", 3), variable(3), number(3)),
		places(name("f", 2), variable(4), number(3)),
		places(name("f", 2), number(3), number(3)),
		places(name("f", 2), variable(3), cell{Kind: impl.TrmNum, N: 3, Name: "a"}),
	} {
		if impl.TrmSame(base, other) || impl.TrmSame(other, base) {
			t.Errorf("%v and %v are told to be the same", base, other)
		}
	}
}
