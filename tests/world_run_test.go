package tests

import (
	"math"
	"math/rand/v2"
	"slices"
	"testing"

	"loop.example/catechist/impl"
)

// stepByStep is a world behind things that happen one by one.
func stepByStep(w world, all []event) world {
	for _, e := range all {
		w = impl.WldStep(w, e)
	}
	return w
}

// blindEvents are so many things that happen, whatever the world is like by then.
func blindEvents(r *rand.Rand, w world, n int) []event {
	var all []event
	for range n {
		all = append(all, anyEvent(r, w, 12))
	}
	return all
}

// TestWhatHappensIsItsFirstPartAndThenTheRest: promise 52.
func TestWhatHappensIsItsFirstPartAndThenTheRest(t *testing.T) {
	t.Parallel()
	r := steady()
	turned := 0
	for k, w := range append(anyWorlds(40), wildWorlds(r, worldPosed(60), 60)...) {
		all := blindEvents(r, w, r.IntN(40))
		at := r.IntN(len(all) + 1)
		whole := impl.WldRun(w, all)
		parts := impl.WldRun(impl.WldRun(w, all[:at]), all[at:])
		if !sameValue(whole, parts) || !sameValue(whole, stepByStep(w, all)) || !impl.WldOk(whole) {
			t.Fatalf("behind %v, %d of them first, %s\nis\n%s\nand\n%s", all, at, showWorld(w), showWorld(whole), showWorld(parts))
		}
		if k%8 == 0 && !sameValue(whole, plainWldRun(w, all)) {
			t.Fatalf("behind %v %s\nis\n%s", all, showWorld(w), showWorld(whole))
		}
		if none := impl.WldRun(w, nil); !sameValue(none, w) {
			t.Fatalf("behind nothing %s\nis\n%s", showWorld(w), showWorld(none))
		}
		if !sameValue(whole, w) {
			turned++
		}
	}
	if turned < 120 {
		t.Errorf("only %d turn", turned)
	}
}

// TestSoManyThingsAtOnce: EvMaxRun, and one more, whatever they are.
func TestSoManyThingsAtOnce(t *testing.T) {
	t.Parallel()
	r := steady()
	for _, w := range []world{richWorld(), impl.WldNew(factsProg(), read("f(X0)")), fullNet(impl.NetMax)} {
		all := blindEvents(r, w, impl.EvMaxRun+1)
		want := stepByStep(w, all[:impl.EvMaxRun])
		if got := impl.WldRun(w, all[:impl.EvMaxRun]); !sameValue(got, want) || !impl.WldOk(got) {
			t.Errorf("behind as many things as there can be it is %s", showWorld(got))
		}
		if got, less := impl.WldRun(w, all[:impl.EvMaxRun-1]), stepByStep(w, all[:impl.EvMaxRun-1]); !sameValue(got, less) {
			t.Errorf("behind one less it is %s", showWorld(got))
		}
		for _, many := range [][]event{all, make([]event, impl.EvMaxRun+1), make([]event, 100000)} {
			if got := impl.WldRun(w, many); !isNothing(got) {
				t.Errorf("behind %d things it is %s", len(many), showWorld(got))
			}
		}
		if got := impl.WldRun(w, make([]event, impl.EvMaxRun)); !sameValue(got, w) {
			t.Errorf("behind things of no kind it is %s", showWorld(got))
		}
		for k, n := range []int{impl.EvMaxRun / 2, 0, impl.EvMaxRun} {
			if got := impl.WldRun(impl.WldRun(w, all[:n]), all[n:impl.EvMaxRun]); !sameValue(got, want) {
				t.Errorf("%d: in two parts it is %s", k, showWorld(got))
			}
		}
	}
}

// roundOf is a calm round, one thing behind the other.
func roundOf(w world) world { return plainRound(w, impl.WldStep) }

// TestCalmBehindCalmIsOneCalm: promise 53; and a round is what the document says, thing by thing.
func TestCalmBehindCalmIsOneCalm(t *testing.T) {
	t.Parallel()
	r := steady()
	for k, w := range append(anyWorlds(30), wildWorlds(r, worldPosed(60), 60)...) {
		one := w
		for n := range 5 {
			calm := impl.WldCalm(w, n)
			if !sameValue(calm, one) || !sameValue(impl.WldCalm(calm, 0), calm) {
				t.Fatalf("behind %d rounds %s\nis\n%s\nwant\n%s", n, showWorld(w), showWorld(calm), showWorld(one))
			}
			if n > 0 && slices.ContainsFunc(calm.Nodes, func(n nodeState) bool { return !n.Up }) {
				t.Fatalf("behind %d rounds somebody is down: %s", n, showWorld(calm))
			}
			if !impl.WldOk(calm) || !sameValue(calm.Prog, w.Prog) || !slices.Equal(calm.Top, w.Top) {
				t.Fatalf("behind %d rounds it is no world: %s", n, showWorld(calm))
			}
			one = impl.WldCalm(one, 1)
		}
		if calm := impl.WldCalm(w, 2); !sameValue(calm, roundOf(roundOf(w))) || k%8 == 0 && !sameValue(calm, plainWldCalm(w, 2)) {
			t.Fatalf("behind two rounds %s\nis\n%s", showWorld(w), showWorld(calm))
		}
	}
}

// TestSoManyRoundsAtOnce: CalmMax, and one more; none, and fewer.
func TestSoManyRoundsAtOnce(t *testing.T) {
	t.Parallel()
	for _, w := range []world{richWorld(), impl.WldNew(factsProg(), read("f(X0)")), fullNet(impl.NetMax)} {
		w.Nodes[0].Works = slices.DeleteFunc(w.Nodes[0].Works, func(one work) bool { return one.Slv.Status == impl.SlvBig })
		one := w
		for range impl.CalmMax {
			one = impl.WldCalm(one, 1)
		}
		most, last := impl.WldCalm(w, impl.CalmMax), impl.WldCalm(impl.WldCalm(w, impl.CalmMax-1), 1)
		if !sameValue(most, one) || !sameValue(last, one) || !ends(one.Outs) {
			t.Errorf("behind as many rounds as there can be it is %s\nand %s", showWorld(most), showWorld(last))
		}
		for _, n := range []int{0, -1, -impl.CalmMax, math.MinInt} {
			if calm := impl.WldCalm(w, n); !sameValue(calm, w) {
				t.Errorf("behind %d rounds it is %s", n, showWorld(calm))
			}
		}
		for _, n := range []int{impl.CalmMax + 1, 2 * impl.CalmMax, math.MaxInt} {
			if calm := impl.WldCalm(w, n); !isNothing(calm) {
				t.Errorf("behind %d rounds it is %s", n, showWorld(calm))
			}
		}
	}
}

// TestARoundHearsWhatIsOnItsWay: first what was, and what is asked for; then what nodes sent, and what was said; what is said to that is heard in the next round.
func TestARoundHearsWhatIsOnItsWay(t *testing.T) {
	w := impl.WldNew(factsProg(), read("f(X0)"))
	for round, want := range []string{"", "", "f(a); ", "f(a); ", "f(a); f(b); "} {
		if calm := impl.WldCalm(w, round); showOuts(calm.Outs) != want {
			t.Errorf("behind %d rounds it is %s", round, showWorld(calm))
		}
	}
	w.Nodes[1] = nodeState{}
	for k := range 3 {
		w.Net = append(w.Net, netMsg{To: k, Bytes: plainMsgBytes(askOf(3, "f(X0)", 1))})
	}
	calm := impl.WldCalm(w, 1)
	if n := calm.Nodes[1]; len(calm.Net) != 0 || len(n.Works) != 1 || n.Works[0].Asked || showOuts(n.Works[0].Outs) != "f(a); " || len(calm.Nodes[0].Works)+len(calm.Nodes[2].Works) > 0 {
		t.Errorf("behind a round it is %s", showWorld(calm))
	}
	// Behind the second round the outcome was told, behind a third one the next one was asked for.
	if calm = impl.WldCalm(w, 2); len(calm.Net) != 0 || showOuts(calm.Outs) != "f(a); " {
		t.Errorf("behind two rounds it is %s", showWorld(calm))
	}
}

// brokenWorlds are worlds that are ok, by hand, but not behind node 0 went on, or was told something: by a cut of more choices than there are, or a choice with fewer variables than the question.
func brokenWorlds() []world {
	p := program("at 1 k 1", "a", "b", "k(1)", "h(X0) if k(X0)")
	cut := trailState{Status: impl.SlvGoes, Goals: []pending{{Goal: cutHere()}, {Goal: cutHere(), Cut: 1}}, Choices: []trailChoice{{Call: read("a"), Next: 0}}, Top: read("x")}
	// The first cut is the last step that is done at once.
	late := cut
	late.Goals = append(slices.Repeat([]pending{{Goal: sameOf("1", "1")}}, impl.NodSlice-1), cut.Goals...)
	top := read("y(f(X0,X1,X2),f(X3,X4,X5),f(X6,X7,X8))")
	fewer := []trailChoice{{Goals: []pending{{Goal: callOf("b")}}, Call: read("a"), Next: 0}}
	less := trailState{Status: impl.SlvGoes, Goals: []pending{{Goal: lessOf("1", "0")}, {Goal: callOf("b")}}, Vars: 9, Choices: fewer, Top: top}
	waits := trailState{Status: impl.SlvWaits, Vars: 9, Choices: append(fewer, trailChoice{Vars: 9, Call: read("k(X3)"), Far: 1}), Top: top}
	var all []world
	for _, s := range []trailState{cut, late, less, waits} {
		for _, want := range []int{1, 3} {
			w := impl.WldNew(p, read("h(X0)"))
			w.Nodes[0].Works = []work{{Want: want, Asked: true, Slv: s}}
			w.Net = []netMsg{{Bytes: plainMsgBytes(tellOf("k(X0)", 1, outcome{Status: impl.SlvNone}))}}
			all = append(all, w)
		}
	}
	return all
}

// fullWait is a world, by hand, whose node 0 has as many outcomes as there can be, and waits; told the end it has one more.
func fullWait() world {
	w := richWorld()
	w.Nodes[0].Works[waitsAt].Outs = repeated(answer("h(1)"), impl.SlvFuel)
	w.Net = []netMsg{{Bytes: plainMsgBytes(tellOf("k(X0)", 1, outcome{Status: impl.SlvNone}))}}
	return w
}

// TestWhatIsNotOkAnyMoreIsNothingThen: solving that no question began may be not ok behind a step; then a world is not ok either, and the next thing leaves nothing, in whatever way it happens.
func TestWhatIsNotOkAnyMoreIsNothingThen(t *testing.T) {
	t.Parallel()
	run, hear, nothing := event{Kind: impl.EvRun}, event{Kind: impl.EvHear}, event{Kind: 77}
	lost := 0
	for _, w := range brokenWorlds() {
		for _, first := range []event{run, hear, {Kind: impl.EvRise}} {
			for _, then := range []event{nothing, run, hear, {Kind: impl.EvFall}, {Kind: impl.EvAsk}} {
				lost += checkLost(t, w, []event{first}, []event{first, then}, []event{nothing, first}, []event{first, then, nothing}, []event{first, nothing, then, run})
			}
		}
		for n := range 4 {
			if got, want := impl.WldCalm(w, n), plainWldCalm(w, n); !sameValue(got, want) {
				t.Fatalf("behind %d rounds it is\n%s\nwant\n%s", n, brief(got), brief(want))
			}
		}
	}
	if lost < 60 {
		t.Errorf("only %d come to nothing", lost)
	}
	if lost = checkLost(t, fullWait(), []event{hear}, []event{hear, nothing}, []event{hear, {Kind: impl.EvFall}}); lost != 2 {
		t.Errorf("with one outcome more than there can be %d come to nothing", lost)
	}
	if calm := impl.WldCalm(fullWait(), 1); !isNothing(calm) {
		t.Errorf("with one outcome more than there can be it is %s", brief(calm))
	}
}

// checkLost holds all that happens in a world that is ok against the plain reading, and is how often that comes to nothing.
func checkLost(t *testing.T, w world, ways ...[]event) int {
	t.Helper()
	lost := 0
	for _, all := range ways {
		got, want := impl.WldRun(w, all), plainWldRun(w, all)
		if !impl.WldOk(w) || !sameValue(got, want) || !sameValue(got, stepByStep(w, all)) {
			t.Fatalf("behind %v it is\n%s\nwant\n%s", all, brief(got), brief(want))
		}
		if isNothing(got) {
			lost++
		}
	}
	return lost
}
