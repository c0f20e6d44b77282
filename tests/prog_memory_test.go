package tests

import (
	"slices"
	"testing"

	"loop.example/catechist/impl"
)

// isVast says whether a program is so great that to look at all its memory takes long.
func isVast(p prog) bool {
	size := len(p.Clauses) + len(p.Places)
	for _, c := range p.Clauses {
		size += len(c.Head) + len(c.Body)
		for _, g := range c.Body {
			size += len(g.A) + len(g.B) + len(g.C)
		}
	}
	return size > 5000
}

// TestProgramsAreNewMemory: no answer of the chapter shares memory with an argument, nor two lists of one, and nothing is written into an argument.
func TestProgramsAreNewMemory(t *testing.T) {
	all := slices.Concat(somePrograms()[:600], wrongProgs()[:200])
	for _, p := range all {
		if isVast(p) {
			continue
		}
		mine := roomy(p)
		x := roomy(read("e(a,b)"))
		checkMemory(t, "PrgOk", []any{mine}, func() []any { impl.PrgOk(mine); return nil })
		checkMemory(t, "PrgNode", []any{mine, x}, func() []any { impl.PrgNode(mine, x); return nil })
		checkMemory(t, "PrgAlone", []any{mine}, func() []any { return []any{impl.PrgAlone(mine)} })
		checkMemory(t, "PrgPrint", []any{mine}, func() []any { return []any{impl.PrgPrint(mine)} })
		lines := roomy(plainLines(p))
		checkMemory(t, "PrgParse", []any{lines}, func() []any { read, _ := impl.PrgParse(lines); return []any{read} })
	}
}

func TestGoalsAndClausesAreNewMemory(t *testing.T) {
	for _, g := range slices.Concat(okGoals(), wrongGoals()) {
		if len(g.A)+len(g.B)+len(g.C) > 1000 {
			continue
		}
		mine := roomy(g)
		checkMemory(t, "GoalOk", []any{mine}, func() []any { impl.GoalOk(mine); return nil })
		checkMemory(t, "GoalText", []any{mine}, func() []any { impl.GoalText(mine); return nil })
		checkMemory(t, "GoalRead", nil, func() []any { read, _ := impl.GoalRead(plainGoalText(g)); return []any{read} })
	}
	for _, c := range okClauses() {
		checkMemory(t, "PrgRead", nil, func() []any { read, _ := impl.PrgRead(plainClauseText(c)); return []any{read} })
	}
}

// TestOneListInManyPlaces: what lies in one memory when it is given does not in the answer.
func TestOneListInManyPlaces(t *testing.T) {
	x := read("f(f(X0),g(a,b))")
	body := []goal{{Kind: impl.GoalPlus, A: x, B: x, C: x}, {Kind: impl.GoalCall, A: x[1:3]}}
	p := prog{Clauses: []clause{{Head: x, Body: body}, {Head: x, Body: body}}, Places: []told{placed("f", 2, 1)}}
	checkMemory(t, "PrgAlone", []any{p}, func() []any { return []any{impl.PrgAlone(p)} })
	if alone := impl.PrgAlone(p); !sameValue(alone.Clauses, p.Clauses) {
		t.Errorf("alone it is %v", alone)
	}
}

// TestNothingOfProgramsIsKept: what is done to one answer is not seen in the next one.
func TestNothingOfProgramsIsKept(t *testing.T) {
	lines := []string{"at 1 e 2", "f(X0) if X0 = a and g(X0,1) and X0 < 3"}
	first, _ := impl.PrgParse(lines)
	was := noSpareOf(first)
	first.Places[0] = told{}
	first.Clauses[0].Head[0] = cell{}
	first.Clauses[0].Body[0].A[0] = cell{}
	first.Clauses[0].Body[1] = goal{}
	if second, wrong := impl.PrgParse(lines); wrong != 0 || !sameValue(second, was) {
		t.Errorf("%v, and then %v", was, second)
	}
	printed := impl.PrgPrint(was)
	printed[0] = "turned"
	if again := impl.PrgPrint(was); !slices.Equal(again, lines) {
		t.Errorf("the lines are then %q", again)
	}
}
