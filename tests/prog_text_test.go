package tests

import (
	"math/rand/v2"
	"slices"
	"strings"
	"testing"

	"loop.example/catechist/impl"
)

// checkGoalText holds what is read of a text against each way to read it plainly.
func checkGoalText(t *testing.T, s string) bool {
	t.Helper()
	want := plainGoals(s)
	g, ok := impl.GoalRead(s)
	switch {
	case ok != (len(want) == 1):
		t.Errorf("%q is read as a goal: %t, of %v", s, ok, want)
	case ok && (!sameValue(g, want[0]) || !impl.GoalOk(g) || impl.GoalText(g) != s):
		t.Errorf("%q is read as %v, with the text %q", s, g, impl.GoalText(g))
	case !ok && !isNothing(g):
		t.Errorf("%q is read as none, with %v", s, g)
	}
	return ok
}

func checkClauseText(t *testing.T, s string) bool {
	t.Helper()
	want := plainClauses(s)
	c, ok := impl.PrgRead(s)
	switch {
	case ok != (len(want) == 1):
		t.Errorf("%q is read as a clause: %t, of %v", s, ok, want)
	case ok && !sameValue(c, want[0]):
		t.Errorf("%q is read as %v", s, c)
	case ok && !slices.Equal(impl.PrgPrint(prog{Clauses: []clause{c}}), []string{s}):
		t.Errorf("%q is read as what has the lines %q", s, impl.PrgPrint(prog{Clauses: []clause{c}}))
	case !ok && !isNothing(c):
		t.Errorf("%q is read as none, with %v", s, c)
	}
	return ok
}

func checkLines(t *testing.T, lines []string) int {
	t.Helper()
	p, wrong := impl.PrgParse(lines)
	if want := plainWrong(lines); wrong != want {
		t.Errorf("of %q line %d is told, want %d", lines, wrong, want)
	}
	if wrong != 0 && !isNothing(p) {
		t.Errorf("of %q line %d is told, with %v", lines, wrong, p)
	}
	if wrong == 0 && (!impl.PrgOk(p) || !slices.Equal(impl.PrgPrint(p), lines)) {
		t.Errorf("%q are read as what has the lines %q", lines, impl.PrgPrint(p))
	}
	return wrong
}

// TestGoalTextIsReadAsIt: promise 20, of goals.
func TestGoalTextIsReadAsIt(t *testing.T) {
	r, all := steady(), okGoals()
	for range 5000 {
		all = append(all, madeGoal(r))
	}
	for _, g := range all {
		s := impl.GoalText(g)
		if want := plainGoalText(g); s != want || s == "" {
			t.Errorf("%v has the text %q, want %q", g, s, want)
		}
		if got, ok := impl.GoalRead(s); !ok || !sameValue(got, g) {
			t.Errorf("%q is read as %v, %t", s, got, ok)
		}
	}
	for _, g := range wrongGoals() {
		if s := impl.GoalText(g); s != "" {
			t.Errorf("%v has the text %q", g, s)
		}
	}
}

func TestGoalTextByHand(t *testing.T) {
	for s, g := range map[string]goal{
		"a":               callOf("a"),
		"f(X0,g(X7),-12)": callOf("f(X0,g(X7),-12)"),
		"X0 = f(X1)":      sameOf("X0", "f(X1)"),
		"!":               cutHere(),
		"X0 < -3":         lessOf("X0", "-3"),
		"X0 + 1 = X1":     plusOf("X0", "1", "X1"),
		"-1 + -2 = -3":    plusOf("-1", "-2", "-3"),
		"and = if":        sameOf("and", "if"),
	} {
		if got := impl.GoalText(g); got != s {
			t.Errorf("%v has the text %q, want %q", g, got, s)
		}
		if got, ok := impl.GoalRead(s); !ok || !sameValue(got, g) {
			t.Errorf("%q is read as %v, %t", s, got, ok)
		}
	}
}

// TestNoGoalText: promise 20, of texts that are none, each for another cause.
func TestNoGoalText(t *testing.T) {
	deep := func(n int) string { return impl.TrmText(chain(n)) }
	for _, s := range []string{
		"", " ", "  ", "\t", "\n", "\x00", "a ", " a", "  a", "a  ", "a\n", "a b", "a b c", "f(a, b)", "f (a)",
		"!!", "! ", " !", "! !", "!a", "a!", "! a", "a !", "! = !", "! = a", "a = !", "! < a", "! + a = b", "!\n",
		"=", " = ", "a =", "a = ", "= a", " = a", "a  = b", "a =  b", "a = b ", " a = b", "a= b", "a =b", "a=b", "a = = b", "a == b", "a = b = c", "a = b c", "a\t= b", "a =\tb",
		"<", "a <", "< a", "a < ", " < a", "a  < b", "a <  b", "a < b ", " a < b", "a<b", "a <b", "a< b", "a < b < c", "a > b", "a <= b", "a = < b",
		"+", "a +", "a + b", "a + b =", "a + b = ", "+ b = c", "a + = c", "a + b c", "a + b < c", "a = b + c", "a + b + c = d", "a + b = c = d", "a + b = c + d",
		"a  + b = c", "a +  b = c", "a + b  = c", "a + b =  c", "a + b = c ", " a + b = c", "a+b=c", "a +b = c", "a + b= c", "a - b = c", "1 + 2", "a + b = c d",
		"X0", "X7", "0", "-3", "9999", "X8 = a", "a = X8", "X8 < 1", "X8 + 1 = X0", "X0 + 1 = X8", "f(X8)", "f(a,X9)", "X99999 = a",
		"X00 = a", "X01 = a", "01 = 1", "1 = 01", "-0 = 0", "+1 = 1", "1 + 01 = 2", "1 + 1 = 02", "1 < 00", "10000 = 1", "-10000 < 1",
		"A", "a1", "abcdefghi", "f(a,b,c,d)", "f()", "f(a", "f(a))", "a = f(", "a = abcdefghi", "f(a,b,c,d) = a", "at 1 e 2", "a if b", "a and b", "if a", "a = b and c", "a and",
		deep(impl.PrgCells + 1), deep(impl.TrmMost), deep(impl.PrgCells+1) + " = a", "a = " + deep(impl.PrgCells+1), "1 + 2 = " + deep(impl.PrgCells+1), "1 + " + deep(impl.PrgCells+1) + " = 3",
		"call(a)(b)", "\u00e4", "a\u00a0= b", "a = \u00e4", "a\xff", "exit a", "a = b\x00",
		strings.Repeat(" ", 1000000), strings.Repeat("a ", 1000000), strings.Repeat("a = ", 1000000) + "a", strings.Repeat("! ", 500000), strings.Repeat("=", 1000000),
	} {
		if g, ok := impl.GoalRead(s); ok || !isNothing(g) {
			t.Errorf("%.60q is read as %v", s, g)
		}
	}
}

// fewWords are words of lines, of names that are words as well, and wrong ones.
func fewWords() []string { return []string{"a", "if", "and", "=", "+", "!", "X0", ""} }

// eachText tells each text of at most so many of some words, a blank between two.
func eachText(words []string, most int, tell func(string)) {
	var on func(s string, left int)
	on = func(s string, left int) {
		tell(s)
		if left > 0 {
			for _, w := range words {
				on(s+" "+w, left-1)
			}
		}
	}
	for _, w := range words {
		on(w, most-1)
	}
}

// TestEachTextOfFewWords: promises 20 and 23, of all short texts of a few words.
func TestEachTextOfFewWords(t *testing.T) {
	goals, clauses := 0, 0
	eachText(fewWords(), 5, func(s string) {
		if checkGoalText(t, s) {
			goals++
		}
		if checkClauseText(t, s) {
			clauses++
		}
	})
	// Calls: a, if, and. Same: 4 terms by 4. Plus: 4 by 4 by 4. The cut.
	if goals != 3+16+64+1 {
		t.Errorf("%d are goals", goals)
	}
	// Heads: a, if, and. Behind them nothing, a call or a cut (4), a same (16), or two of a call or a cut (16).
	if clauses != 3*(1+4+16+16) {
		t.Errorf("%d are clauses", clauses)
	}
}

// bent is a text with something of it turned, gone, or once more there.
func bent(r *rand.Rand, s string) string {
	words := strings.Split(s, " ")
	k := r.IntN(len(words))
	n := r.IntN(len(s) + 1)
	odd := []string{" ", "X0", "X8", "a", "0", "if", "and", "=", "<", "+", "!", "(", ")", ",", "-", "\t", "\xff", "at"}
	switch r.IntN(6) {
	case 0:
		return strings.Join(slices.Concat(words[:k], words[k+1:]), " ")
	case 1:
		return strings.Join(slices.Concat(words[:k+1], words[k:]), " ")
	case 2:
		return strings.Join(slices.Concat(words[:k], []string{odd[r.IntN(len(odd))]}, words[k:]), " ")
	case 3:
		words[k] = odd[r.IntN(len(odd))]
		return strings.Join(words, " ")
	case 4:
		return s[:n] + odd[r.IntN(len(odd))] + s[n:]
	}
	if n == len(s) {
		return s + " "
	}
	return s[:n] + s[n+1:]
}

// TestBentTexts: promises 20 and 23, of texts that are almost ones.
func TestBentTexts(t *testing.T) {
	r, goals, clauses := steady(), [2]int{}, [2]int{}
	count := func(n *[2]int, ok bool) {
		if ok {
			n[0]++
		} else {
			n[1]++
		}
	}
	for range 8000 {
		count(&goals, checkGoalText(t, bent(r, plainGoalText(madeGoal(r)))))
		count(&clauses, checkClauseText(t, bent(r, plainClauseText(madeClause(r)))))
	}
	for _, n := range slices.Concat(goals[:], clauses[:]) {
		if n < 500 {
			t.Errorf("goals: %v, clauses: %v", goals, clauses)
		}
	}
}

// TestLineIsAClause: promise 23, of clauses.
func TestLineIsAClause(t *testing.T) {
	r, all := steady(), okClauses()
	for range 3000 {
		all = append(all, madeClause(r))
	}
	for _, c := range all {
		lines := impl.PrgPrint(prog{Clauses: []clause{c}})
		if want := plainClauseText(c); len(lines) != 1 || lines[0] != want {
			t.Errorf("%v has the lines %q, want %q", c, lines, want)
			continue
		}
		if got, ok := impl.PrgRead(lines[0]); !ok || !sameValue(got, c) {
			t.Errorf("%q is read as %v, %t", lines[0], got, ok)
		}
	}
}

func TestClausesByHand(t *testing.T) {
	for s, c := range map[string]clause{
		"e(a,b)":                              clauseWith("e(a,b)"),
		"p(X0) if e(X0,X1) and X1 = b and !":  clauseWith("p(X0)", callOf("e(X0,X1)"), sameOf("X1", "b"), cutHere()),
		"q(X0,X1) if X0 < X1 and X0 + 1 = X1": clauseWith("q(X0,X1)", lessOf("X0", "X1"), plusOf("X0", "1", "X1")),
		"if if if and if":                     clauseWith("if", callOf("if"), callOf("if")),
		"and if and and and":                  clauseWith("and", callOf("and"), callOf("and")),
		"at if at":                            clauseWith("at", callOf("at")),
		"at":                                  clauseWith("at"),
		"a if X0 = and and b":                 clauseWith("a", sameOf("X0", "and"), callOf("b")),
		"a if X0 = and and and = X0":          clauseWith("a", sameOf("X0", "and"), sameOf("and", "X0")),
		"a if X0 = if and if < and":           clauseWith("a", sameOf("X0", "if"), lessOf("if", "and")),
		"a if and + and = and and and":        clauseWith("a", plusOf("and", "and", "and"), callOf("and")),
		"a if if < if and ! and ! and !":      clauseWith("a", lessOf("if", "if"), cutHere(), cutHere(), cutHere()),
	} {
		if got := impl.PrgPrint(prog{Clauses: []clause{c}}); !slices.Equal(got, []string{s}) {
			t.Errorf("%v has the lines %q, want %q", c, got, s)
		}
		if got, ok := impl.PrgRead(s); !ok || !sameValue(got, c) {
			t.Errorf("%q is read as %v, %t", s, got, ok)
		}
	}
}

// noLines are lines that are no clause's, each for another cause.
func noLines() []string {
	deep := impl.TrmText(chain(impl.PrgCells + 1))
	return []string{
		"", " ", "  ", "\n", "\x00", "a ", " a", "a  ", "\ta", "a\n", "a b", "a if", "a if ", " a if b", "a  if b", "a if  b", "a if b ", "a if b\n", "a\tif b", "a b c",
		"a if b and", "a if b and ", "a if b  and c", "a if b and  c", "a if b and c ", "a if and b", "a if and and", "a if b and and c", "a if b if c", "a if b, c", "a if b c",
		"a and b", "a and b if c", "if a", "and a", "a if if b", "a if b and if c", "a If b", "a if b And c", "aif b", "a ifb", "a if b andc", "a if band c", "a :- b", "a.", "a if b.",
		"X0", "X0 if a", "3", "3 if a", "-3", "!", "! if a", "a = b", "a = b if c", "a < b if c", "X0 = a", "a + b = c", "f(X8)", "f(X8) if a", "a if f(X8)", "a if X8 = a", "a if X0", "a if 3",
		"a if b and X0", "a if b and 3 and c", "a if X0 = ", "a if X0 =", "a if X0 = and b", "a if X0 = a b", "a if 1 + 1 = 02", "a if 01 = 1", "a if X00 = 1", "a if ! !", "a if !and b", "a if ! and",
		"a if b and c and d and e and f", "a if ! and ! and ! and ! and !", deep, deep + " if a", "a if " + deep, "a if b and X0 = " + deep, "abcdefghi", "f(a,b,c,d)", "A", "a(", "a()", "\u00e4", "a\xff",
		"at 1 e 2", "at 2 e 0", "at 1 e", "at 1", "at 1 e 2 3",
		strings.Repeat(" ", 1000000), "a if " + strings.Repeat("b and ", 300000) + "b", strings.Repeat("a", 1000000), "a if " + strings.Repeat("1 + ", 300000), "a" + strings.Repeat(" if a", 300000),
	}
}

// TestNoClause: promise 23, of lines that are none.
func TestNoClause(t *testing.T) {
	for _, s := range noLines() {
		if c, ok := impl.PrgRead(s); ok || !isNothing(c) {
			t.Errorf("%.60q is read as %v", s, c)
		}
	}
}

// TestProgramTextIsReadAsIt: promises 21 and 22, of programs.
func TestProgramTextIsReadAsIt(t *testing.T) {
	for _, p := range somePrograms() {
		lines := impl.PrgPrint(p)
		if want := plainLines(p); !slices.Equal(lines, want) {
			t.Errorf("%v has the lines %q, want %q", p, lines, want)
		}
		got, wrong := impl.PrgParse(lines)
		if wrong != 0 || !sameValue(got, p) {
			t.Errorf("%q are read as %v, %d", lines, got, wrong)
		}
		for k, line := range lines[len(p.Places):] {
			if c, ok := impl.PrgRead(line); !ok || !sameValue(c, p.Clauses[k]) {
				t.Errorf("%q is read as %v, %t", line, c, ok)
			}
		}
		for _, line := range lines[:len(p.Places)] {
			if c, ok := impl.PrgRead(line); ok || !isNothing(c) {
				t.Errorf("%q is read as the clause %v", line, c)
			}
		}
	}
}

func TestProgramByHand(t *testing.T) {
	lines := []string{"at 1 e 2", "at 2 p 0", "at if b", "e(a,b)", "p if e(X0,X1) and !"}
	p := prog{
		Places:  []told{placed("e", 2, 1), placed("p", 0, 2)},
		Clauses: []clause{clauseWith("at", callOf("b")), clauseWith("e(a,b)"), clauseWith("p", callOf("e(X0,X1)"), cutHere())},
	}
	if got := impl.PrgPrint(p); !slices.Equal(got, lines) {
		t.Errorf("its lines are %q", got)
	}
	if got, wrong := impl.PrgParse(lines); wrong != 0 || !sameValue(got, p) {
		t.Errorf("it is read as %v, %d", got, wrong)
	}
	for _, none := range [][]string{nil, {}} {
		if got, wrong := impl.PrgParse(none); wrong != 0 || !isNothing(got) {
			t.Errorf("no lines are read as %v, %d", got, wrong)
		}
	}
	if got := impl.PrgPrint(prog{}); len(got) != 0 {
		t.Errorf("nothing has the lines %q", got)
	}
}

// noPlaces are lines that tell no name's node, and are no clauses either.
func noPlaces() []string {
	return []string{
		"at ", "at 1", "at 1 ", "at 1 e", "at 1 e ", "at 1 e 2 ", " at 1 e 2", "at  1 e 2", "at 1  e 2", "at 1 e  2", "at\t1 e 2", "at 1 e 2\n", "at 1 e 2 3", "at 1 e 2 if a", "At 1 e 2", "at1 e 2",
		"at 0 e 2", "at 3 e 2", "at 4 e 2", "at -1 e 2", "at 01 e 2", "at +1 e 2", "at 1.0 e 2", "at 1e0 e 2", "at 0x1 e 2", "at X1 e 2", "at a e 2", "at  e 2", "at 18446744073709551617 e 2", "at 99999999999999999999999 e 2",
		"at 1 e 4", "at 1 e -1", "at 1 e 02", "at 1 e 00", "at 1 e -0", "at 1 e +2", "at 1 e 2.0", "at 1 e a", "at 1 e X0", "at 1 e ", "at 1 e 4294967298", "at 1 e 18446744073709551618",
		"at 1  2", "at 1 E 2", "at 1 e1 2", "at 1 abcdefghi 2", "at 1 X0 2", "at 1 3 2", "at 1 e(a,b) 2", "at 1 e(a,b)", "at 1 \u00e4 2", "at 1 e\xff 2", "at 1 ! 2", "at e 1 2", "e 1 2", "at 1 e e", "at \u0661 e 2",
		"on 1 e 2", "at 1 e 2 at 2 f 1", "at 1 e 2,", "at 1 e " + strings.Repeat("0", 1000) + "2", "at 1 " + strings.Repeat("e", 1000000) + " 2",
	}
}

// TestNoPlace: promise 22, of lines that tell no node.
func TestNoPlace(t *testing.T) {
	for _, line := range noPlaces() {
		for _, ahead := range [][]string{nil, {"at 1 f 1"}, {"at 1 f 1", "at 2 e 3"}} {
			lines := append(slices.Clone(ahead), line, "a")
			if p, wrong := impl.PrgParse(lines); wrong != len(ahead)+1 || !isNothing(p) {
				t.Errorf("of %.80q line %d is told, with %v", lines, wrong, p)
			}
		}
	}
	for _, line := range []string{"at 1 e 0", "at 1 e 1", "at 2 e 2", "at 2 abcdefgh 3", "at 1 at 0", "at 1 if 0"} {
		if p, wrong := impl.PrgParse([]string{line}); wrong != 0 || len(p.Places) != 1 {
			t.Errorf("%q is read as %v, %d", line, p, wrong)
		}
	}
}
