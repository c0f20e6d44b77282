package tests

import (
	"slices"
	"testing"

	"loop.example/catechist/impl"
)

// soonTold is what one machine tells of a question within so many steps, so many outcomes at most.
func soonTold(q posed, most, steps int) []outcome {
	outs, _ := impl.SlvOuts(q.p, q.top, most, steps)
	return outs
}

// checkComes: within 300 calm rounds a world has outcomes, and they are these.
func checkComes(t *testing.T, what string, w world, want []outcome) world {
	t.Helper()
	then, came := comesAll(w, len(want))
	if !came || !sameOuts(then.Outs[:len(want)], want) {
		t.Fatalf("%s: %s\nhas %s, want %s", what, showWorld(w), showOuts(then.Outs), showOuts(want))
	}
	return then
}

// TestInACalmOutcomesCome: promise 6, from worlds in which up to 200 things happened.
func TestInACalmOutcomesCome(t *testing.T) {
	t.Parallel()
	r := steady()
	came, late, byEnd := 0, 0, 0
	for k, q := range worldPosed(200) {
		for _, steps := range []int{0, r.IntN(200), 200} {
			w := wild(r, q, steps, 5+k%4*12, func(world, event, world) {})
			n := len(w.Outs)
			want := soonTold(q, n+1, 32)
			if len(want) <= n {
				continue
			}
			then := checkComes(t, "in a calm", w, want)
			checkTold(t, truthOf(q.p), then)
			came++
			late += min(n, 1)
			if ends(then.Outs) {
				byEnd++
			}
		}
	}
	if came < 500 || late < 60 || byEnd < 150 {
		t.Errorf("only %d come, %d of them behind others, %d an end", came, late, byEnd)
	}
}

// TestCalmFromFullNets: with as many on their way as there can be, of which none is of use, and with none.
func TestCalmFromFullNets(t *testing.T) {
	t.Parallel()
	for _, q := range append(handFar(), handWorld()...) {
		want := soonTold(q, 2, 32)
		w := impl.WldNew(q.p, q.top)
		for k := range impl.NetMax {
			m := []message{{Kind: impl.MsgAsk, From: k % 4, Top: q.top, N: 1 + k%3}, askOf(k%4, "none(X0)", 1+k), tellOf("none(X0)", 1, outcome{Status: impl.SlvWrong})}[k%3]
			w.Net = append(w.Net, netMsg{To: k % 4, Bytes: plainMsgBytes(m)})
		}
		checkComes(t, "with a full net", w, want)
	}
}

// TestCalmWithManyWorks: nodes that work at as many questions as they can, none of which is asked for.
func TestCalmWithManyWorks(t *testing.T) {
	t.Parallel()
	p := richNodeProg()
	for _, text := range []string{"h(X0)", "k(X0)", "e(X0)", "bad(X0)", "w(X0,X1)"} {
		q := questionsOf(p, text)[0]
		w := impl.WldNew(p, q.top)
		w.Nodes[0] = fullOf(impl.NodMost)
		then := checkComes(t, "with many works", w, soonTold(q, 3, 32))
		if len(then.Nodes[0].Works) > impl.NodMost {
			t.Errorf("it works at %d", len(then.Nodes[0].Works))
		}
	}
}

// TestWhereCallsAreDoneMakesNoDifferenceToAWorld: promise 8.
func TestWhereCallsAreDoneMakesNoDifferenceToAWorld(t *testing.T) {
	t.Parallel()
	seen, two := 0, 0
	for _, q := range worldPosed(400) {
		want := soonTold(q, 2, 24)
		far, near := impl.WldNew(q.p, q.top), impl.WldNew(alone(q).p, q.top)
		far, near = checkComes(t, "at several nodes", far, want), checkComes(t, "alone", near, want)
		seen += len(want)
		if len(far.Nodes[1].Works)+len(far.Nodes[2].Works) > 0 && len(near.Nodes[0].Works) > 0 {
			two++
		}
	}
	if seen < 500 || two < 200 {
		t.Errorf("only %d are told, in %d worlds others are asked", seen, two)
	}
}

// fallen is a world of which all nodes fell.
func fallen(w world) world {
	return impl.WldRun(w, []event{{Kind: impl.EvFall, At: 2}, {Kind: impl.EvFall}, {Kind: impl.EvFall, At: 1}})
}

// TestOfFactsAWorldTellsWhatFits: promise 95; another one asks what was asked before, of nodes that forgot it.
func TestOfFactsAWorldTellsWhatFits(t *testing.T) {
	t.Parallel()
	r := steady()
	all := factsPosed()
	for range 150 {
		all = append(all, posed{spread(r, smallFacts(r, impl.PrgClauses)), smallQuestion(r)})
	}
	answers := 0
	for _, q := range all {
		want := soonTold(q, 2, 24)
		if facts := plainFacts(q.p, q.top); !sameOuts(want, facts[:min(len(facts), 2)]) {
			t.Fatalf("%v: one machine tells %s", q, showOuts(want))
		}
		w := checkComes(t, "of facts", impl.WldNew(q.p, q.top), want)
		again := fallen(w)
		if slices.ContainsFunc(again.Nodes, func(n nodeState) bool { return n.Up || len(n.Works) > 0 }) || !sameOuts(again.Outs, w.Outs) {
			t.Fatalf("all fall, and it is %s", showWorld(again))
		}
		checkToldToOthers(t, again, want)
		again.Outs = nil
		checkComes(t, "asked by another one", again, want)
		answers += len(answersOf(want))
	}
	if answers < 100 {
		t.Errorf("only %d answers", answers)
	}
}

// checkToldToOthers: nodes that fell, and rise, tell each other node the outcomes of the question, if it asks twice for each.
func checkToldToOthers(t *testing.T, w world, want []outcome) {
	t.Helper()
	at := impl.PrgNode(w.Prog, w.Top)
	for from := range impl.PrgNodes {
		w := impl.WldStep(w, event{Kind: impl.EvRise, At: at})
		for k, o := range want {
			ask := netMsg{To: at, Bytes: plainMsgBytes(message{Kind: impl.MsgAsk, From: from, Top: w.Top, N: k + 1})}
			w.Net = []netMsg{ask, ask}
			w = impl.WldRun(w, []event{{Kind: impl.EvHear}, {Kind: impl.EvRun, At: at}, {Kind: impl.EvHear}})
			tell := netMsg{To: from, Bytes: plainMsgBytes(message{Kind: impl.MsgTell, Top: w.Top, N: k + 1, Out: o})}
			if !sameValue(w.Net, []netMsg{tell}) {
				t.Fatalf("asked by %d for %d, it is %s", from, k+1, showWorld(w))
			}
		}
	}
}

// TestOutcomesComeByHand: all outcomes of questions by hand, in their order, in a calm.
func TestOutcomesComeByHand(t *testing.T) {
	t.Parallel()
	for _, one := range []struct {
		p    prog
		top  string
		want string
	}{
		{handFar()[0].p, "p(a,X0)", "p(a,b); p(a,c); p(a,c); none; "}, {handFar()[0].p, "q(X0)", "q(b); none; "}, {handFar()[0].p, "e(X0,X1)", "e(a,b); e(b,c); e(a,c); none; "},
		{factsProg(), "f(X0)", "f(a); f(b); f(c); none; "}, {factsProg(), "f(X0,X1)", "f(X0,X0); f(a,b); none; "}, {factsProg(), "g(X0)", "g(X0); g(1); none; "}, {factsProg(), "no(X0)", "none; "}, {factsProg(), "f(d)", "none; "},
		{handWorld()[0].p, "len(c(a,c(X0,nil)),X1)", "len(c(a,c(X0,nil)),2); none; "}, {handWorld()[0].p, "n(1,X0)", "n(1,1); n(1,2); n(1,3); none; "}, {handWorld()[0].p, "n(a,X0)", "n(a,a); wrong; "},
		{program("at 1 odd 1", "even(0)", "even(X0) if 0 < X0 and X0 + -1 = X1 and odd(X1)", "odd(X0) if 0 < X0 and X0 + -1 = X1 and even(X1)"), "even(12)", "even(12); none; "},
		{program("at 1 big 1", "big(b)", "big(X0) if big(g(X0))", "t(X0) if big(X0)"), "t(X0)", "t(b); too big; "},
		{program("at 1 k 1", "at 2 m 1", "k(1)", "k(2)", "m(X0) if k(X0) and !", "m(3)", "o(X0) if m(X0)", "o(X0) if k(X0)"), "o(X0)", "o(1); o(1); o(2); none; "},
		{program("at 2 t 1", "at 1 k 1", "k(1)", "k(2)", "t(X0) if k(X0) and k(X1)"), "t(X0)", "t(1); t(1); t(2); t(2); none; "},
	} {
		w := impl.WldNew(one.p, read(one.top))
		for k := 0; k < 100 && !ends(w.Outs); k++ {
			w = impl.WldCalm(w, 3)
		}
		if got := showOuts(w.Outs); got != one.want {
			t.Errorf("of %s come %s, want %s", one.top, got, one.want)
		}
	}
}

// TestCalmWithAnOldAnswerLate: an outcome that comes late, behind others and behind the end, turns nothing.
func TestCalmWithAnOldAnswerLate(t *testing.T) {
	t.Parallel()
	for _, q := range append(handFar(), factsPosed()...) {
		all, _ := impl.SlvOuts(q.p, q.top, 9, 200)
		if !ends(all) {
			continue
		}
		var late []netMsg
		for k, o := range all {
			m := message{Kind: impl.MsgTell, Top: q.top, N: k + 1, Out: o}
			late = append(late, netMsg{To: impl.MsgClient, Bytes: plainMsgBytes(m)}, netMsg{To: impl.PrgNode(q.p, q.top), Bytes: plainMsgBytes(m)})
		}
		slices.Reverse(late)
		w := impl.WldNew(q.p, q.top)
		for k := 0; k < 100 && !ends(w.Outs); k++ {
			w.Net = append(slices.Clone(late), w.Net...)
			w = impl.WldCalm(w, 2)
		}
		w.Net = append(slices.Clone(late), w.Net...)
		if w = impl.WldCalm(w, 3); !sameOuts(w.Outs, all) {
			t.Errorf("%v: it has %s, want %s", q, showOuts(w.Outs), showOuts(all))
		}
	}
}

// TestExampleOfTheWorld: what the document's example tells.
func TestExampleOfTheWorld(t *testing.T) {
	q := questionsOf(handFar()[0].p, "q(X0)")[0]
	ask, hear := event{Kind: impl.EvAsk}, event{Kind: impl.EvHear}
	run := func(at int) event { return event{Kind: impl.EvRun, At: at} }
	on := []event{ask, hear, run(0), hear, run(2)}
	all := slices.Concat(
		on, []event{hear, run(1)},
		on, []event{hear, {Kind: impl.EvBend, At: 0, Pos: 9, V: 4}, hear},
		on, []event{hear, {Kind: impl.EvTwice}, hear, hear},
		on, []event{ask, hear, run(0), hear, {Kind: impl.EvFall, At: 2}, hear, ask, hear, run(0), ask, hear, hear},
	)
	w := impl.WldRun(impl.WldNew(q.p, q.top), all)
	if len(w.Nodes[0].Works) != 1 || len(w.Nodes[1].Works) != 1 || w.Nodes[2].Up || len(w.Net) != 0 || showOuts(w.Outs) != "q(b); " {
		t.Errorf("it is %s", showWorld(w))
	}
	if w = impl.WldCalm(w, 9); showOuts(w.Outs) != "q(b); none; " || len(w.Nodes[2].Works) != 0 {
		t.Errorf("in a calm it is %s", showWorld(w))
	}
}
