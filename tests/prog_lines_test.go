package tests

import (
	"math/rand/v2"
	"slices"
	"strconv"
	"testing"

	"loop.example/catechist/impl"
)

func toldNames(n int) []string {
	var lines []string
	for k := range n {
		lines = append(lines, "at 1 "+string(rune('a'+k))+" 2")
	}
	return lines
}

func factLines(n int) []string { return slices.Repeat([]string{"f(a)"}, n) }

// TestFirstWrongLine: promise 22, which line is told.
func TestFirstWrongLine(t *testing.T) {
	for k, one := range []struct {
		lines []string
		want  int
	}{
		{[]string{""}, 1},
		{[]string{"a", ""}, 2},
		{[]string{"", "a"}, 1},
		{[]string{"a", "b if", "c if"}, 2},
		{[]string{"a if b and", "c if"}, 1},
		{[]string{"a", "at 1 e 2"}, 2},
		{[]string{"at 1 e 2", "a", "at 1 f 2"}, 3},
		{[]string{"at 1 e 2", "a", "at 1 f 2", "b if"}, 3},
		{[]string{"at 1 e 2", "at 1 e 2"}, 2},
		{[]string{"at 1 e 2", "at 2 e 2"}, 2},
		{[]string{"at 1 e 2", "at 1 f 2", "at 2 e 2", "at 9 e 2"}, 3},
		{[]string{"at 1 e 2", "at 1 e 1", "at 1 e 0", "at 1 e 3"}, 0},
		{[]string{"at 1 e 2", "at 3 f 2", "at 1 e 2"}, 2},
		{[]string{"at", "at 1 e 2"}, 2},
		{[]string{"at 1 e 2", "at"}, 0},
		{toldNames(6), 0},
		{toldNames(7), 7},
		{toldNames(30), 7},
		{append(toldNames(6), "at 1 a 2"), 7},
		{append(toldNames(7), ""), 7},
		{append(toldNames(6), "", "at 1 a 2"), 7},
		{factLines(11), 0},
		{factLines(12), 0},
		{factLines(13), 13},
		{factLines(100000), 13},
		{append(factLines(12), ""), 13},
		{append(factLines(13), ""), 13},
		{append(factLines(12), "f(a) if"), 13},
		{append(factLines(14), "f(a) if"), 13},
		{append(factLines(11), "f(a) if", "f(a)", "f(a)"), 12},
		{append(factLines(12), "at 1 e 2"), 13},
		{slices.Concat(toldNames(6), factLines(12)), 0},
		{slices.Concat(toldNames(6), factLines(13)), 19},
		{slices.Concat(toldNames(6), factLines(14), []string{""}), 19},
		{slices.Concat(toldNames(7), factLines(14), []string{""}), 7},
		{slices.Concat(toldNames(5), factLines(12), []string{"at 1 z 2"}), 18},
		{slices.Concat(toldNames(5), []string{"f(a) if X0"}, factLines(14)), 6},
		{slices.Concat(factLines(3), toldNames(7)), 4},
	} {
		p, wrong := impl.PrgParse(one.lines)
		if wrong != one.want {
			t.Errorf("%d: line %d is told, want %d", k, wrong, one.want)
		}
		if wrong != 0 && !isNothing(p) {
			t.Errorf("%d: line %d is told, with %v", k, wrong, p)
		}
		if wrong == 0 && !slices.Equal(impl.PrgPrint(p), one.lines) {
			t.Errorf("%d: what is read has the lines %q", k, impl.PrgPrint(p))
		}
	}
}

// anyLine is a line that a program may have, or one that is none.
func anyLine(r *rand.Rand, placesAhead bool) string {
	if placesAhead && r.IntN(8) > 0 || !placesAhead && r.IntN(40) == 0 {
		return "at " + strconv.Itoa(1+r.IntN(2)) + " " + []string{"a", "b", "at"}[r.IntN(3)] + " " + strconv.Itoa(r.IntN(4))
	}
	switch r.IntN(12) {
	case 0:
		return bent(r, plainClauseText(madeClause(r)))
	case 1:
		return plainClauseText(madeClause(r))
	}
	return []string{"a", "at", "f(X0) if X0 = and and g(X0)", "b(7) if !"}[r.IntN(4)]
}

// TestAnyLines: promises 21 and 22, of lines of any sort, held against each way to read them.
func TestAnyLines(t *testing.T) {
	r, at := steady(), map[int]int{}
	for range 1500 {
		var lines []string
		ahead := r.IntN(6)
		for k := range r.IntN(20) {
			lines = append(lines, anyLine(r, k < ahead))
		}
		at[checkLines(t, lines)]++
	}
	if at[0] < 300 || at[1] < 5 || at[2] < 20 || at[5] < 20 || at[13] < 10 {
		t.Errorf("lines are told so often: %v", at)
	}
}

// TestBentPrograms: promise 22, of a program's lines with one of them turned, gone, moved, or once more there.
func TestBentPrograms(t *testing.T) {
	r, right, wrong := steady(), 0, 0
	for _, p := range somePrograms() {
		lines := plainLines(p)
		if len(lines) == 0 {
			continue
		}
		k, j := r.IntN(len(lines)), r.IntN(len(lines))
		switch r.IntN(4) {
		case 0:
			lines[k] = bent(r, lines[k])
		case 1:
			lines = slices.Delete(lines, k, k+1)
		case 2:
			lines[k], lines[j] = lines[j], lines[k]
		case 3:
			lines = slices.Insert(lines, j, lines[k])
		}
		if checkLines(t, lines) == 0 {
			right++
		} else {
			wrong++
		}
	}
	if right < 200 || wrong < 200 {
		t.Errorf("only %d are read, %d are not", right, wrong)
	}
}
