package tests

import (
	"math/rand/v2"
	"runtime"
	"slices"
	"sync"
	"testing"
	"time"

	"loop.example/catechist/impl"
)

// checkWorldMemory calls each function of the chapter on a world and things that happen, which have spare room.
func checkWorldMemory(t *testing.T, w world, events []event) {
	t.Helper()
	w, events = roomy(w), roomy(events)
	given := []any{w, events}
	checkMemory(t, "WldNew", given, func() []any { return []any{impl.WldNew(w.Prog, w.Top)} })
	checkMemory(t, "WldOk", given, func() []any { impl.WldOk(w); return nil })
	for _, e := range events {
		checkMemory(t, "WldStep", given, func() []any { return []any{impl.WldStep(w, e)} })
	}
	for _, n := range []int{0, len(events)} {
		checkMemory(t, "WldRun", given, func() []any { return []any{impl.WldRun(w, events[:n])} })
	}
	for _, n := range []int{-1, 0, 1, 3, impl.CalmMax + 1} {
		checkMemory(t, "WldCalm", given, func() []any { return []any{impl.WldCalm(w, n)} })
	}
}

// oneOfEach is a thing of each kind, that happens.
func oneOfEach(r *rand.Rand, w world) []event {
	at := r.IntN(len(w.Net) + 1)
	all := []event{{Kind: 0}, {Kind: impl.EvAsk}, bendOf(r, w, at)}
	for _, kind := range []int{impl.EvHear, impl.EvLose, impl.EvTwice} {
		all = append(all, event{Kind: kind, At: at})
	}
	for _, kind := range []int{impl.EvRun, impl.EvFall, impl.EvRise} {
		all = append(all, event{Kind: kind, At: r.IntN(impl.PrgNodes)})
	}
	r.Shuffle(len(all), func(i, j int) { all[i], all[j] = all[j], all[i] })
	return all
}

// TestWorldsAreNewMemory: no answer shares memory with an argument, no two lists of one answer share any, and nothing is written into an argument.
func TestWorldsAreNewMemory(t *testing.T) {
	t.Parallel()
	r := steady()
	for k, w := range append(anyWorlds(20), wildWorlds(r, worldPosed(40), 80)...) {
		if k == 0 || len(w.Net) < impl.NetMax-1 {
			checkWorldMemory(t, w, oneOfEach(r, w))
		}
	}
	for at := range richMail {
		w := richWorld()
		checkWorldMemory(t, w, []event{{Kind: impl.EvTwice, At: at}, {Kind: impl.EvBend, At: at, V: 1}, {Kind: impl.EvTwice, At: at}, {Kind: impl.EvHear, At: at}})
	}
	checkWorldMemory(t, fullNet(impl.NetMax), []event{{Kind: impl.EvTwice, At: 3}, {Kind: impl.EvHear, At: askAt}, {Kind: impl.EvRun}})
}

// TestWrongWorldsAreNewMemory: what is not ok is not written to either.
func TestWrongWorldsAreNewMemory(t *testing.T) {
	t.Parallel()
	r := steady()
	for _, one := range harmfulWorld() {
		w := richWorld()
		if one.turn(&w); vast(w) {
			continue
		}
		checkWorldMemory(t, w, []event{{Kind: impl.EvAsk}, {Kind: impl.EvBend, V: 1}, {Kind: impl.EvHear}, {Kind: impl.EvRun}})
	}
	for _, p := range wrongProgs()[:60] {
		if !isVast(p) {
			checkWorldMemory(t, world{Prog: p, Nodes: richWorld().Nodes, Top: read("h(X0)")}, oneOfEach(r, world{}))
		}
	}
}

// vast says whether a world is so big that to look at all its memory takes long.
func vast(w world) bool {
	if slices.ContainsFunc(w.Net, func(m netMsg) bool { return len(m.Bytes) > 2*mostBytes }) {
		return true
	}
	return len(w.Outs) > 1000 || len(w.Nodes) > 10 || len(w.Net) > impl.NetMax+1 || len(w.Top) > 1000 || slices.ContainsFunc(w.Nodes, func(n nodeState) bool { return len(n.Works) > 2*impl.NodMost || manyOuts(n) })
}

// TestWorldOfSharedLists: what lies in one memory when it is given does not in the answer.
func TestWorldOfSharedLists(t *testing.T) {
	p, x := factsProg(), read("f(X0)")
	outs := []outcome{answer("f(a)"), answer("f(a)")}
	outs[1].Term = outs[0].Term
	n := nodeState{Up: true, Works: []work{{Outs: outs, Want: 3, Asked: true, Slv: impl.TrlNew(x)}}}
	n.Works[0].Slv.Top = x
	b := plainMsgBytes(askOf(3, "f(X0)", 1))
	w := world{Prog: p, Nodes: []nodeState{impl.NodNew(), n, impl.NodNew()}, Top: x, Outs: outs, Net: []netMsg{{To: 1, Bytes: b}, {To: 1, Bytes: b[:len(b)-1]}, {To: 3, Bytes: b}}}
	for _, e := range everyEvent(w) {
		checkMemory(t, "WldStep", []any{w, e}, func() []any { return []any{impl.WldStep(w, e)} })
		checkStepPlainly(t, w, e)
	}
	all := []event{{Kind: impl.EvTwice}, {Kind: impl.EvBend, V: 1}, {Kind: impl.EvTwice, At: 1}, {Kind: impl.EvBend, At: 4, V: 2}, {Kind: impl.EvTwice, At: 4}}
	checkMemory(t, "WldRun", []any{w, all}, func() []any { return []any{impl.WldRun(w, all)} })
	if got := impl.WldRun(w, all); !sameValue(got, plainWldRun(w, all)) || len(got.Net) != 6 {
		t.Errorf("a copy is bent as well: %s", showWorld(got))
	}
}

// TestACopyIsBentAlone: neither is a copy bent with what it is a copy of, nor that with its copy.
func TestACopyIsBentAlone(t *testing.T) {
	w := richWorld()
	w.Net = w.Net[tellAt : tellAt+1]
	for at := range 2 {
		then := impl.WldRun(w, []event{{Kind: impl.EvTwice}, {Kind: impl.EvBend, At: at, Pos: 5, V: 7}})
		if !sameValue(then.Net[1-at], w.Net[0]) || !then.Net[at].Bent || sameValue(then.Net[0].Bytes, then.Net[1].Bytes) {
			t.Errorf("with %d bent it is %s", at, showWorld(then))
		}
	}
}

// TestNothingOfWorldsIsKept: what is done to one answer, or to an argument behind a call, is not seen in the next one.
func TestNothingOfWorldsIsKept(t *testing.T) {
	events := []event{{Kind: impl.EvTwice, At: tellAt}, {Kind: impl.EvHear, At: askAt}, {Kind: impl.EvRun}, {Kind: impl.EvBend, V: 3}, {Kind: impl.EvAsk}}
	for what, call := range map[string]func(world) world{
		"WldNew":  func(w world) world { return impl.WldNew(w.Prog, w.Top) },
		"WldStep": func(w world) world { return impl.WldStep(w, event{Kind: impl.EvHear, At: nextAt}) },
		"WldRun":  func(w world) world { return impl.WldRun(w, events) },
		"WldCalm": func(w world) world { return impl.WldCalm(w, 2) },
	} {
		w := richWorld()
		then := call(w)
		want := noSpareOf(then)
		for _, m := range w.Net {
			clear(m.Bytes)
		}
		clear(w.Top)
		clear(w.Outs)
		clear(w.Nodes[0].Works)
		if !sameValue(then, want) {
			t.Errorf("%s: an argument is written over, and it is %s", what, showWorld(then))
		}
		clear(then.Top)
		clear(then.Nodes)
		clear(then.Net)
		clear(then.Prog.Clauses)
		if again := call(richWorld()); !sameValue(again, want) {
			t.Errorf("%s: %s, and then %s", what, showWorld(want), showWorld(again))
		}
	}
}

// TestNobodyIsLeftInAWorld: when calls have answered there are no more goroutines than there were, whatever happened.
func TestNobodyIsLeftInAWorld(t *testing.T) {
	r := steady()
	worlds := append(anyWorlds(3), brokenWorlds()...)
	before := runtime.NumGoroutine()
	for _, w := range worlds {
		for _, e := range someEvents(r, w, 20) {
			impl.WldStep(w, e)
		}
		impl.WldRun(w, blindEvents(r, w, 40))
		impl.WldCalm(w, 3)
		impl.WldOk(w)
	}
	// One that has told all may still be on its way out.
	for k := 0; k < 200 && runtime.NumGoroutine() > before; k++ {
		time.Sleep(5 * time.Millisecond)
	}
	if after := runtime.NumGoroutine(); after > before {
		t.Errorf("there were %d, and are %d", before, after)
	}
}

// TestWorldsSideBySide: many calls at once of one world answer as one alone does.
func TestWorldsSideBySide(t *testing.T) {
	w, r := richWorld(), steady()
	all := blindEvents(r, w, 60)
	run, calm := impl.WldRun(w, all), impl.WldCalm(w, 4)
	var wants []world
	for _, e := range all {
		wants = append(wants, impl.WldStep(w, e))
	}
	var group sync.WaitGroup
	for k := range 16 {
		group.Go(func() {
			for i := range all {
				e := all[(i+k)%len(all)]
				if then := impl.WldStep(w, e); !sameValue(then, wants[(i+k)%len(all)]) {
					t.Errorf("behind %v it is %s", e, showWorld(then))
				}
			}
			if then := impl.WldRun(w, all); !sameValue(then, run) {
				t.Errorf("behind all it is %s", showWorld(then))
			}
			if then := impl.WldCalm(w, 4); !sameValue(then, calm) {
				t.Errorf("in a calm it is %s", showWorld(then))
			}
		})
	}
	group.Wait()
}
