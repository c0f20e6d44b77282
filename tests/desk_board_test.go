package tests

import (
	"slices"
	"strconv"
	"testing"

	"loop.example/catechist/impl"
)

// checkBoard holds a board against the plain reading: promise 57.
func checkBoard(t *testing.T, what string, w world) []string {
	t.Helper()
	got, want := impl.DskBoard(w), plainBoard(w)
	if !slices.Equal(got, want) {
		t.Errorf("%s: the board is %.600q, want %.600q, of %s", what, got, want, brief(w))
	}
	lines := 0
	if impl.WldOk(w) {
		lines = impl.PrgNodes + 1 + len(w.Outs)
	}
	if len(got) != lines || slices.Contains(got, "") {
		t.Errorf("%s: the board has %d lines, want %d: %.600q", what, len(got), lines, got)
	}
	return got
}

func TestBoardByHand(t *testing.T) {
	begin := impl.WldNew(richNodeProg(), read("h(X0)"))
	many := richWorld()
	many.Nodes[0] = fullOf(impl.NodMost)
	full := fullNet(impl.NetMax)
	ended := richWorld()
	ended.Outs = append(ended.Outs, answer("h(X0)"), answer("h(g(X0))"), outcome{Status: impl.SlvNone})
	alone := begin
	alone.Outs = []outcome{{Status: impl.SlvBig}}
	for _, one := range []struct {
		w    world
		want []string
	}{
		{begin, []string{"node 0 questions 0", "node 1 questions 0", "node 2 questions 0", "on their way 0"}},
		{richWorld(), []string{"node 0 questions 7", "node 1 questions 0", "node 2 down", "on their way 10", "h(1)"}},
		{many, []string{"node 0 questions 32", "node 1 questions 0", "node 2 down", "on their way 10", "h(1)"}},
		{full, []string{"node 0 questions 7", "node 1 questions 0", "node 2 down", "on their way 160", "h(1)"}},
		{ended, []string{"node 0 questions 7", "node 1 questions 0", "node 2 down", "on their way 10", "h(1)", "h(X0)", "h(g(X0))", "none"}},
		{alone, []string{"node 0 questions 0", "node 1 questions 0", "node 2 questions 0", "on their way 0", "too big"}},
		{fallen(richWorld()), []string{"node 0 down", "node 1 down", "node 2 down", "on their way 10", "h(1)"}},
		{world{}, nil},
	} {
		if got := checkBoard(t, "by hand", one.w); !slices.Equal(got, one.want) {
			t.Errorf("the board is %q, want %q", got, one.want)
		}
	}
	for status, word := range map[int]string{impl.SlvNone: "none", impl.SlvBig: "too big", impl.SlvWrong: "wrong"} {
		w := richWorld()
		w.Outs = append(w.Outs, outcome{Status: status})
		if got := checkBoard(t, word, w); got[len(got)-1] != word {
			t.Errorf("the board is %q, want %q as last", got, word)
		}
	}
}

// TestBoardsOfTurnedWorlds: promise 57, of worlds that are ok, and such as are not, each for another cause: of these there is none.
func TestBoardsOfTurnedWorlds(t *testing.T) {
	t.Parallel()
	for _, one := range harmlessWorld() {
		w := richWorld()
		one.turn(&w)
		if got := checkBoard(t, one.what, w); len(got) < impl.PrgNodes+1 {
			t.Errorf("%s: the board is %.600q", one.what, got)
		}
	}
	for _, one := range harmfulWorld() {
		w := richWorld()
		one.turn(&w)
		if got := impl.DskBoard(w); len(got) > 0 {
			t.Errorf("%s: the board is %.600q", one.what, got)
		}
	}
	for _, p := range wrongProgs() {
		if got := impl.DskBoard(world{Prog: p, Nodes: make([]nodeState, impl.PrgNodes), Top: read("f(a,X0)")}); len(got) > 0 {
			t.Errorf("of a wrong program the board is %.600q", got)
		}
	}
	for _, top := range noQuestions() {
		if got := impl.DskBoard(world{Prog: richNodeProg(), Nodes: make([]nodeState, impl.PrgNodes), Top: top}); len(got) > 0 {
			t.Errorf("of no question the board is %.600q", got)
		}
	}
}

// TestBoardsOfAnyWorlds: promise 57, of worlds in which anything happened, and of such as are made any way.
func TestBoardsOfAnyWorlds(t *testing.T) {
	t.Parallel()
	r := steady()
	down, works, mail, outs := 0, 0, 0, 0
	for _, w := range append(anyWorlds(60), wildWorlds(r, worldPosed(60), 90)...) {
		checkBoard(t, "any", w)
		for k, n := range w.Nodes {
			if !n.Up {
				down++
			}
			works += min(len(n.Works), 1)
			other := noSpareOf(w)
			other.Nodes[k] = nodeState{Up: !n.Up}
			checkBoard(t, "with node "+strconv.Itoa(k)+" another one", other)
		}
		mail += min(len(w.Net), 1)
		outs += min(len(w.Outs), 1)
	}
	if down < 60 || works < 150 || mail < 100 || outs < 60 {
		t.Errorf("only %d are down, %d work, in %d something is on its way, %d have outcomes", down, works, mail, outs)
	}
}
