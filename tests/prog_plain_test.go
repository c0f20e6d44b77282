package tests

import (
	"regexp"
	"strconv"
	"strings"

	"loop.example/catechist/impl"
)

// What the chapter on programs says, plainly: what is ok is asked of all of it at once, and a text is read by trying each way to cut it.

func plainFits(t []cell) bool {
	if !impl.TrmOk(t) || len(t) > impl.PrgCells {
		return false
	}
	for _, v := range impl.TrmFree(t) {
		if v >= impl.PrgFree {
			return false
		}
	}
	return true
}

func plainGoalOk(g goal) bool {
	if g.Kind < impl.GoalCall || g.Kind > impl.GoalPlus {
		return false
	}
	for k, part := range [][]cell{g.A, g.B, g.C} {
		has := termsOf(g.Kind)>>k&1 == 1
		if has && !plainFits(part) || !has && len(part) > 0 {
			return false
		}
	}
	return g.Kind != impl.GoalCall || g.A[0].Kind == impl.TrmFun
}

func plainClauseOk(c clause) bool {
	if !plainGoalOk(goal{Kind: impl.GoalCall, A: c.Head}) || len(c.Body) > impl.PrgGoals {
		return false
	}
	for _, g := range c.Body {
		if !plainGoalOk(g) {
			return false
		}
	}
	return true
}

var smallLetters = regexp.MustCompile(`^[a-z]{1,8}$`)

func plainPlacesOk(all []told) bool {
	if len(all) > impl.PrgPlaces {
		return false
	}
	for k, at := range all {
		if !smallLetters.MatchString(at.Name) || at.N < 0 || at.N > impl.TrmArity || at.Node < 1 || at.Node > impl.PrgNodes-1 {
			return false
		}
		for _, other := range all[:k] {
			if other.Name == at.Name && other.N == at.N {
				return false
			}
		}
	}
	return true
}

func plainProgOk(p prog) bool {
	if len(p.Clauses) > impl.PrgClauses || !plainPlacesOk(p.Places) {
		return false
	}
	for _, c := range p.Clauses {
		if !plainClauseOk(c) {
			return false
		}
	}
	return true
}

func plainNode(p prog, t []cell) int {
	if !plainProgOk(p) || !impl.TrmOk(t) || t[0].Kind != impl.TrmFun {
		return -1
	}
	for _, at := range p.Places {
		if at.Name == t[0].Name && at.N == t[0].N {
			return at.Node
		}
	}
	return 0
}

func plainGoalText(g goal) string {
	a, b, c := impl.TrmText(g.A), impl.TrmText(g.B), impl.TrmText(g.C)
	return map[int]string{
		impl.GoalCall: a,
		impl.GoalSame: a + " = " + b,
		impl.GoalCut:  "!",
		impl.GoalLess: a + " < " + b,
		impl.GoalPlus: a + " + " + b + " = " + c,
	}[g.Kind]
}

func plainClauseText(c clause) string {
	var goals []string
	for _, g := range c.Body {
		goals = append(goals, plainGoalText(g))
	}
	if len(goals) == 0 {
		return impl.TrmText(c.Head)
	}
	return impl.TrmText(c.Head) + " if " + strings.Join(goals, " and ")
}

func plainLines(p prog) []string {
	var lines []string
	for _, at := range p.Places {
		lines = append(lines, strings.Join([]string{"at", strconv.Itoa(at.Node), at.Name, strconv.Itoa(at.N)}, " "))
	}
	for _, c := range p.Clauses {
		lines = append(lines, plainClauseText(c))
	}
	return lines
}

// cuts is each way to cut a text in two at a mark, wherever it stands.
func cuts(s, mark string) [][2]string {
	var all [][2]string
	for k := range s {
		if strings.HasPrefix(s[k:], mark) {
			all = append(all, [2]string{s[:k], s[k+len(mark):]})
		}
	}
	return all
}

// plainGoals is each goal that may stand in a clause whose text this is.
func plainGoals(s string) []goal {
	term := func(s string) []cell { t, _ := impl.TrmRead(s); return t }
	tried := []goal{{Kind: impl.GoalCall, A: term(s)}, cutHere()}
	for _, at := range cuts(s, " = ") {
		tried = append(tried, goal{Kind: impl.GoalSame, A: term(at[0]), B: term(at[1])})
		for _, sum := range cuts(at[0], " + ") {
			tried = append(tried, goal{Kind: impl.GoalPlus, A: term(sum[0]), B: term(sum[1]), C: term(at[1])})
		}
	}
	for _, at := range cuts(s, " < ") {
		tried = append(tried, goal{Kind: impl.GoalLess, A: term(at[0]), B: term(at[1])})
	}
	var all []goal
	for _, g := range tried {
		if plainGoalOk(g) && plainGoalText(g) == s {
			all = append(all, g)
		}
	}
	return all
}

// plainBodies is each list of at most so many goals, one at least, whose text this is.
func plainBodies(s string, most int) [][]goal {
	if most == 0 {
		return nil
	}
	var all [][]goal
	for _, g := range plainGoals(s) {
		all = append(all, []goal{g})
	}
	for _, at := range cuts(s, " and ") {
		for _, g := range plainGoals(at[0]) {
			for _, rest := range plainBodies(at[1], most-1) {
				all = append(all, append([]goal{g}, rest...))
			}
		}
	}
	return all
}

// plainClauses is each clause that is ok whose line this is.
func plainClauses(line string) []clause {
	head, _ := impl.TrmRead(line)
	tried := []clause{{Head: head}}
	for _, at := range cuts(line, " if ") {
		head, _ := impl.TrmRead(at[0])
		for _, body := range plainBodies(at[1], impl.PrgGoals) {
			tried = append(tried, clause{Head: head, Body: body})
		}
	}
	var all []clause
	for _, c := range tried {
		if plainClauseOk(c) && plainClauseText(c) == line {
			all = append(all, c)
		}
	}
	return all
}

var toldLine = regexp.MustCompile(`^at ([0-9]) ([a-z]+) ([0-9])$`)

// plainProgs is each program that is ok whose lines these are.
func plainProgs(lines []string) []prog {
	all := []prog{{}}
	for _, line := range lines {
		var more []prog
		if m := toldLine.FindStringSubmatch(line); m != nil {
			node, _ := strconv.Atoi(m[1])
			n, _ := strconv.Atoi(m[3])
			for _, p := range all {
				if len(p.Clauses) == 0 {
					more = append(more, prog{Places: append(p.Places[:len(p.Places):len(p.Places)], placed(m[2], n, node))})
				}
			}
		}
		for _, c := range plainClauses(line) {
			for _, p := range all {
				more = append(more, prog{Places: p.Places, Clauses: append(p.Clauses[:len(p.Clauses):len(p.Clauses)], c)})
			}
		}
		all = more
	}
	var ok []prog
	for _, p := range all {
		if plainProgOk(p) {
			ok = append(ok, p)
		}
	}
	return ok
}

// plainWrong is the first line with which those ahead of it, and it, are no program's; 0, if there is none.
func plainWrong(lines []string) int {
	for k := range lines {
		if len(plainProgs(lines[:k+1])) == 0 {
			return k + 1
		}
	}
	return 0
}
