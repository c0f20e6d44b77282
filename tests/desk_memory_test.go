package tests

import (
	"slices"
	"sync"
	"testing"

	"loop.example/catechist/impl"
)

// checkDeskMemory calls each function of the chapter on lists that have spare room.
func checkDeskMemory(t *testing.T, lines []string, question string, events []string) {
	t.Helper()
	lines, events = roomy(lines), roomy(events)
	given := []any{lines, events}
	for _, most := range []int{-1, 0, 1, 3, 9} {
		checkMemory(t, "DskAsk", given, func() []any { return []any{impl.DskAsk(lines, question, most)} })
	}
	for _, n := range []int{0, len(events) / 2, len(events)} {
		checkMemory(t, "DskRun", given, func() []any { return []any{impl.DskRun(lines, question, events[:n])} })
	}
	if len(lines) > 0 {
		checkMemory(t, "DskRun", given, func() []any { return []any{impl.DskRun(lines[:len(lines)-1], question, lines)} })
		checkMemory(t, "DskAsk", given, func() []any { return []any{impl.DskAsk(lines[1:], question, 9)} })
	}
}

// TestLinesAreNewMemory: no answer shares memory with an argument, and nothing is written into an argument, right or wrong.
func TestLinesAreNewMemory(t *testing.T) {
	t.Parallel()
	r := steady()
	for k, q := range append(somePosed(60), worldPosed(30)...) {
		lines, question := linesOfPosed(q)
		events := append(calmLines(r, impl.WldNew(q.p, q.top), 1+k%5, 2), "halt", "", "run 1")
		checkDeskMemory(t, lines, question, events)
		if k%5 == 0 {
			checkDeskMemory(t, append(lines, ""), question, events)
			checkDeskMemory(t, lines, "X0", events)
			checkDeskMemory(t, lines, question, slices.Repeat(events, impl.DskMaxLines))
		}
	}
	checkDeskMemory(t, nil, "a", nil)
	checkDeskMemory(t, deskProg(), "q(X0)", exampleLines())
}

// TestBoardsAreNewMemory: of worlds that are ok, and such as are not.
func TestBoardsAreNewMemory(t *testing.T) {
	t.Parallel()
	all := anyWorlds(20)
	for _, one := range append(harmlessWorld(), harmfulWorld()...) {
		w := richWorld()
		if one.turn(&w); !vast(w) {
			all = append(all, w)
		}
	}
	for _, w := range all {
		mine := roomy(w)
		checkMemory(t, "DskBoard", []any{mine}, func() []any { return []any{impl.DskBoard(mine)} })
		for _, o := range append(mine.Outs, outcome{}, answer("h(X0)")) {
			o := roomy(o)
			checkMemory(t, "OutText", []any{mine, o}, func() []any { impl.OutText(mine.Top, o); return nil })
		}
	}
}

// TestNothingOfLinesIsKept: what is done to an answer, or to an argument behind a call, is not seen in the next one.
func TestNothingOfLinesIsKept(t *testing.T) {
	for what, call := range map[string]func(lines, events []string) []string{
		"DskAsk":          func(lines, _ []string) []string { return impl.DskAsk(lines, "p(a,X0)", 9) },
		"DskRun":          func(lines, events []string) []string { return impl.DskRun(lines, "q(X0)", events) },
		"DskRun, halting": func(lines, events []string) []string { return impl.DskRun(lines, "q(X0)", append(events, "halt")) },
		"DskAsk, wrong":   func(lines, _ []string) []string { return impl.DskAsk(append(lines, ""), "p(a,X0)", 9) },
		"DskBoard":        func(_, _ []string) []string { return impl.DskBoard(richWorld()) },
	} {
		lines, events := deskProg(), exampleLines()
		then := call(lines, events)
		want := slices.Clone(then)
		clear(lines)
		clear(events)
		if !slices.Equal(then, want) {
			t.Errorf("%s: an argument is written over, and it is %q", what, then)
		}
		clear(then[:cap(then)])
		if again := call(deskProg(), exampleLines()); !slices.Equal(again, want) || len(want) == 0 {
			t.Errorf("%s: %q, and then %q", what, want, again)
		}
	}
}

// TestLinesSideBySide: many calls at once answer as one alone does.
func TestLinesSideBySide(t *testing.T) {
	t.Parallel()
	lines, events, wrong := deskProg(), exampleLines(), append(exampleLines(), noEvents()[:20]...)
	w := richWorld()
	ask, run, none, board := impl.DskAsk(lines, "p(a,X0)", 9), impl.DskRun(lines, "q(X0)", events), impl.DskRun(lines, "q(X0)", wrong), impl.DskBoard(w)
	var group sync.WaitGroup
	for range 16 {
		group.Go(func() {
			for range 8 {
				if got := impl.DskAsk(lines, "p(a,X0)", 9); !slices.Equal(got, ask) {
					t.Errorf("it tells %q", got)
				}
				if got := impl.DskRun(lines, "q(X0)", events); !slices.Equal(got, run) {
					t.Errorf("it is %q", got)
				}
				if got := impl.DskRun(lines, "q(X0)", wrong); !slices.Equal(got, none) {
					t.Errorf("with lines that are none it is %q", got)
				}
				if got := impl.DskBoard(w); !slices.Equal(got, board) {
					t.Errorf("the board is %q", got)
				}
			}
		})
	}
	group.Wait()
}
