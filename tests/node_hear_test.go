package tests

import (
	"bytes"
	"slices"
	"strconv"
	"testing"

	"loop.example/catechist/impl"
)

// hears is what a node is behind a message, and what it says; held against the plain reading.
func hears(t *testing.T, s scene, m message) (nodeState, sent) {
	t.Helper()
	b := plainMsgBytes(m)
	checkHearPlainly(t, s, b)
	return impl.NodHear(s.p, s.node, s.n, b)
}

// workOn is the work of a question; nothing, if there is none.
func workOn(n nodeState, top []cell) (work, bool) {
	for _, w := range n.Works {
		if slices.Equal(w.Slv.Top, top) {
			return w, true
		}
	}
	return work{}, false
}

// TestNodeSaysWhatItKnows: promise 43, of what asks.
func TestNodeSaysWhatItKnows(t *testing.T) {
	t.Parallel()
	r, told, not, elsewhere := steady(), 0, 0, 0
	for _, s := range scenes() {
		for _, m := range asksFor(r, s) {
			then, said := hears(t, s, m)
			if !impl.NodOk(s.p, s.node, then) {
				t.Fatalf("%v: behind %v it is not ok: %v", s, m, then)
			}
			again, same := impl.NodHear(s.p, s.node, then, plainMsgBytes(m))
			if !sameValue(again, then) || !sameValue(same, said) {
				t.Fatalf("%v: behind %v once more it is %v, and says %v, and did %v", s, m, again, same, said)
			}
			was, there := workOn(s.n, m.Top)
			if !there || m.N > len(was.Outs) {
				not++
				elsewhere += min(impl.PrgNode(s.p, m.Top)^s.node, 1)
				if !isNothing(said) {
					t.Fatalf("%v: behind %v, which it does not know, it says %v", s, m, said)
				}
				continue
			}
			told++
			tell, ok := impl.MsgRead(said.Bytes)
			if !ok || said.To != m.From || !sameValue(tell, message{Kind: impl.MsgTell, Top: m.Top, N: m.N, Out: was.Outs[m.N-1]}) {
				t.Fatalf("%v: behind %v it says %v to %d", s, m, tell, said.To)
			}
			// No step is done for it.
			if is, _ := workOn(then, m.Top); !sameValue(is.Slv, was.Slv) || !sameOuts(is.Outs, was.Outs) {
				t.Fatalf("%v: behind %v, which it knows, it works on: %v", s, m, is)
			}
		}
	}
	if told < 1500 || not < 3000 || elsewhere < 1000 {
		t.Errorf("only %d are told, %d are not, %d are called elsewhere", told, not, elsewhere)
	}
}

// TestBytesThatAreNoMessage: promise 43: they turn nothing, and nothing is said.
func TestBytesThatAreNoMessage(t *testing.T) {
	t.Parallel()
	r := steady()
	for _, s := range append(scenes(), scene{richNodeProg(), 0, richNode()}) {
		for _, b := range noMessages(r) {
			if then, said := impl.NodHear(s.p, s.node, s.n, b); !sameValue(then, s.n) || !isNothing(said) {
				t.Fatalf("%v: behind % x it is %v, and says %v", s, b, then, said)
			}
		}
	}
	s := scene{richNodeProg(), 0, richNode()}
	for _, m := range []message{askOf(3, "e(X0)", 1), askOf(1, "e(b)", 1), tellOf("k(X0)", 1, answer("k(1)"))} {
		eachTurned(plainMsgBytes(m), func(k int, b []byte) {
			if k%3 > 0 && b[k]%8 > 0 {
				return
			}
			if then, said := impl.NodHear(s.p, s.node, s.n, b); !sameValue(then, s.n) || !isNothing(said) {
				t.Fatalf("behind % x it is %v, and says %v", b, then, said)
			}
		})
	}
	for _, b := range manyBytes() {
		if then, said := impl.NodHear(s.p, s.node, s.n, b); !sameValue(then, s.n) || !isNothing(said) {
			t.Fatalf("behind very many it is %v, and says %v", then, said)
		}
	}
}

// TestWhoAsksIsWorkedAtFirst: promise 45: all others keep their order, and of more than there can be the last one is gone.
func TestWhoAsksIsWorkedAtFirst(t *testing.T) {
	t.Parallel()
	r, fresh, gone, elsewhere := steady(), 0, 0, 0
	for _, s := range scenes() {
		for _, m := range asksFor(r, s) {
			then, _ := impl.NodHear(s.p, s.node, s.n, plainMsgBytes(m))
			if impl.PrgNode(s.p, m.Top) != s.node {
				elsewhere++
				if !sameValue(then, s.n) {
					t.Fatalf("%v: behind %v, which is not called there, it is %v", s, m, then)
				}
				continue
			}
			if len(then.Works) == 0 || len(then.Works) > impl.NodMost || !slices.Equal(then.Works[0].Slv.Top, m.Top) || !then.Works[0].Asked {
				t.Fatalf("%v: behind %v it is %v", s, m, then)
			}
			others := slices.DeleteFunc(slices.Clone(s.n.Works), func(w work) bool { return slices.Equal(w.Slv.Top, m.Top) })
			if len(others) == len(s.n.Works) {
				fresh++
				if first := (work{Want: 1, Asked: true, Slv: impl.TrlNew(m.Top)}); !sameValue(then.Works[0], first) {
					t.Fatalf("%v: behind %v there is the new work %v", s, m, then.Works[0])
				}
			}
			if len(others) == impl.NodMost {
				gone++
				others = others[:impl.NodMost-1]
			}
			if !sameValue(then.Works[1:], others) {
				t.Fatalf("%v: behind %v the others are %v", s, m, then.Works[1:])
			}
		}
	}
	if fresh < 500 || gone < 5 || elsewhere < 1000 {
		t.Errorf("only %d are new, %d are gone, %d are called elsewhere", fresh, gone, elsewhere)
	}
}

// TestOneWorkMoreThanThereCanBe: as many and one more, one behind the other, from a node that comes up.
func TestOneWorkMoreThanThereCanBe(t *testing.T) {
	p, n := countProg(), impl.NodNew()
	top := func(k int) []cell { return read("c(" + strconv.Itoa(k) + ")") }
	for k := range 2*impl.NodMost + 3 {
		n, _ = impl.NodHear(p, 0, n, plainMsgBytes(message{Kind: impl.MsgAsk, From: k % 4, Top: top(k), N: 1}))
		if len(n.Works) != min(k+1, impl.NodMost) {
			t.Fatalf("behind %d questions it works at %d", k+1, len(n.Works))
		}
		for i, w := range n.Works {
			if !slices.Equal(w.Slv.Top, top(k-i)) {
				t.Fatalf("behind %d questions the one at %d is %s", k+1, i, impl.TrmText(w.Slv.Top))
			}
		}
	}
	// One that is there already makes none go, wherever it is.
	for _, at := range []int{0, 1, 7, impl.NodMost - 2, impl.NodMost - 1} {
		then, _ := hears(t, scene{p, 0, n}, message{Kind: impl.MsgAsk, Top: n.Works[at].Slv.Top, N: 1})
		want := append([]work{n.Works[at]}, slices.Delete(slices.Clone(n.Works), at, at+1)...)
		if !sameValue(then.Works, want) {
			t.Errorf("the one at %d is asked for, and the works are %v", at, then.Works)
		}
	}
	// What is gone is forgotten: who asks for it again begins anew.
	s := fullScene()
	last := s.n.Works[impl.NodMost-1]
	s.n, _ = hears(t, s, askOf(1, "c(99)", 1))
	s.n, _ = hears(t, s, message{Kind: impl.MsgAsk, Top: last.Slv.Top, N: 1})
	if first := (work{Want: 1, Asked: true, Slv: impl.TrlNew(last.Slv.Top)}); !sameValue(s.n.Works[0], first) {
		t.Errorf("what was gone is %v", s.n.Works[0])
	}
}

// TestNoMoreIsWantedThanTheNext: promise 80, of who asks.
func TestNoMoreIsWantedThanTheNext(t *testing.T) {
	t.Parallel()
	r := steady()
	for _, s := range scenes() {
		for _, m := range asksFor(r, s) {
			was, there := workOn(s.n, m.Top)
			then, _ := impl.NodHear(s.p, s.node, s.n, plainMsgBytes(m))
			is, now := workOn(then, m.Top)
			if !now {
				continue
			}
			if !there {
				was.Want = 1
			}
			if is.Want < was.Want || is.Want > max(was.Want, len(is.Outs)+1) || is.Want < min(m.N, len(is.Outs)+1) || is.Want > max(was.Want, m.N) {
				t.Fatalf("%v: behind %v %d are wanted, with %d there, and %d were", s, m, is.Want, len(is.Outs), was.Want)
			}
		}
	}
}

// TestHowManyAreWanted: by hand.
func TestHowManyAreWanted(t *testing.T) {
	for _, one := range []struct{ outs, was, n, want int }{
		{0, 1, 1, 1}, {0, 1, 2, 1}, {0, 1, impl.SlvFuel, 1}, {0, 5, 1, 5}, {0, 5, 6, 5}, {0, 5, impl.SlvFuel, 5},
		{1, 1, 1, 1}, {1, 1, 2, 2}, {1, 1, 3, 2}, {1, 2, 1, 2}, {1, 2, 9, 2}, {3, 1, 1, 1}, {3, 1, 2, 2}, {3, 1, 3, 3}, {3, 1, 4, 4}, {3, 1, 5, 4}, {3, 9, 4, 9}, {3, 9, 12, 9},
		{3, impl.SlvFuel, 4, impl.SlvFuel}, {3, impl.SlvFuel, impl.SlvFuel, impl.SlvFuel}, {40, 39, 41, 41}, {40, 39, 42, 41}, {40, 39, 38, 39},
		{impl.SlvFuel, 1, impl.SlvFuel, impl.SlvFuel}, {impl.SlvFuel, 1, 1, 1}, {impl.SlvFuel, impl.SlvFuel, impl.SlvFuel, impl.SlvFuel}, {impl.SlvFuel - 1, 1, impl.SlvFuel, impl.SlvFuel}, {impl.SlvFuel - 2, 1, impl.SlvFuel, impl.SlvFuel - 1},
	} {
		for _, asked := range []bool{false, true} {
			w := work{Outs: repeated(answer("e(a)"), one.outs), Want: one.was, Asked: asked, Slv: impl.TrlNew(read("e(X0)"))}
			then, said := impl.NodHear(richNodeProg(), 0, nodeState{Up: true, Works: []work{w}}, plainMsgBytes(askOf(2, "e(X0)", one.n)))
			w.Want, w.Asked = one.want, true
			if !sameValue(then, nodeState{Up: true, Works: []work{w}}) {
				t.Errorf("%v: %d are wanted", one, then.Works[0].Want)
			}
			if tell := plainMsgBytes(tellOf("e(X0)", one.n, answer("e(a)"))); (one.n <= one.outs) != bytes.Equal(said.Bytes, tell) {
				t.Errorf("%v: it says %v", one, said)
			}
		}
	}
}

// TestEachOutcomeThereIsToldAlone: of several that differ the one that is asked for, at each number, to each who asks.
func TestEachOutcomeThereIsToldAlone(t *testing.T) {
	outs := []outcome{answer("e(a)"), answer("e(b)"), answer("e(X0)"), answer("e(f(X0,X1))"), {Status: impl.SlvWrong}}
	n := nodeState{Up: true, Works: []work{{Outs: repeated(answer("zz"), 9), Want: 1, Slv: impl.TrlNew(read("zz"))}, {Outs: outs, Want: 2, Slv: trailState{Status: impl.SlvWrong, Top: read("e(X0)")}}}}
	for from := range impl.MsgClient + 1 {
		for k, o := range outs {
			then, said := hears(t, scene{richNodeProg(), 0, n}, askOf(from, "e(X0)", k+1))
			if said.To != from || !bytes.Equal(said.Bytes, plainMsgBytes(tellOf("e(X0)", k+1, o))) || len(then.Works) != 2 {
				t.Errorf("outcome %d is told %d as % x", k+1, said.To, said.Bytes)
			}
		}
		for _, k := range []int{6, 7, impl.SlvFuel} {
			if _, said := hears(t, scene{richNodeProg(), 0, n}, askOf(from, "e(X0)", k)); !isNothing(said) {
				t.Errorf("outcome %d is told %d as % x", k, said.To, said.Bytes)
			}
		}
	}
}

// TestWhoAsksMakesNoDifference: promise 93.
func TestWhoAsksMakesNoDifference(t *testing.T) {
	t.Parallel()
	r := steady()
	for _, s := range scenes() {
		for k, m := range asksFor(r, s) {
			if k%4 > 0 {
				continue
			}
			m.From = 0
			want, say := impl.NodHear(s.p, s.node, s.n, plainMsgBytes(m))
			for from := 1; from <= impl.MsgClient; from++ {
				m.From = from
				got, said := impl.NodHear(s.p, s.node, s.n, plainMsgBytes(m))
				if !sameValue(got, want) || !bytes.Equal(said.Bytes, say.Bytes) || len(said.Bytes) > 0 && said.To != from || len(said.Bytes) == 0 && said.To != 0 {
					t.Fatalf("%v: %v leaves %v, and says %v, not %v", s, m, got, said, say)
				}
			}
		}
	}
}

// TestWhatNobodyWaitsForIsNotHeard: promise 79; and nothing is said, and what was taken is not taken again.
func TestWhatNobodyWaitsForIsNotHeard(t *testing.T) {
	t.Parallel()
	r, heard, not, ended := steady(), 0, 0, 0
	for _, s := range scenes() {
		for _, m := range tellsFor(r, s) {
			then, said := hears(t, s, m)
			if !isNothing(said) || len(then.Works) != len(s.n.Works) || !impl.NodOk(s.p, s.node, then) {
				t.Fatalf("%v: behind %v it is %v, and says %v", s, m, then, said)
			}
			for k, was := range s.n.Works {
				is := then.Works[k]
				top, far := impl.TrlWants(was.Slv)
				if far != m.N || !slices.Equal(top, m.Top) {
					not++
					if !sameValue(is, was) {
						t.Fatalf("%v: behind %v, for which it does not wait, %v is %v", s, m, was, is)
					}
					continue
				}
				heard++
				if is.Want != was.Want || is.Asked != was.Asked || !sameValue(is.Slv, impl.TrlTake(s.p, s.node, was.Slv, m.Top, m.N, m.Out)) || sameValue(is.Slv, was.Slv) {
					t.Fatalf("%v: behind %v %v is %v", s, m, was, is)
				}
				if plainEnded(is.Slv.Status) {
					ended++
					was.Outs = append(slices.Clone(was.Outs), outcome{Status: is.Slv.Status})
				}
				if !sameOuts(is.Outs, was.Outs) {
					t.Fatalf("%v: behind %v it has %s", s, m, showOuts(is.Outs))
				}
			}
			checkOnceMore(t, s, then, m)
		}
	}
	if heard < 500 || not < 10000 || ended < 250 {
		t.Errorf("only %d are heard, %d are not, %d end by that", heard, not, ended)
	}
}

// checkOnceMore: the same that is told at once again turns just what waits for it again, by another choice.
func checkOnceMore(t *testing.T, s scene, then nodeState, m message) {
	t.Helper()
	again, said := impl.NodHear(s.p, s.node, then, plainMsgBytes(m))
	for k, was := range then.Works {
		top, far := impl.TrlWants(was.Slv)
		if waits := far == m.N && slices.Equal(top, m.Top); !waits && !sameValue(again.Works[k], was) || !isNothing(said) {
			t.Fatalf("%v: behind %v once more %v is %v", s, m, was, again.Works[k])
		}
		if top, before := impl.TrlWants(s.n.Works[k].Slv); far == m.N && before == m.N && slices.Equal(top, m.Top) && m.Out.Status != impl.SlvNone {
			t.Fatalf("%v: behind %v it waits for it again", s, m)
		}
	}
}

// TestAllThatWaitAreTold: several works that wait for one outcome all take it, and those that wait for another one do not.
func TestAllThatWaitAreTold(t *testing.T) {
	p := program("at 1 k 1", "k(1)", "k(2)", "a(X0) if k(X0)", "b(X0) if k(X0) and X0 < 2", "c(X0) if k(2) and k(X0)", "d(X0) if k(X0) and k(X0)")
	wait := func(top string, tells ...outcome) work {
		s := impl.TrlStep(p, 0, impl.TrlStep(p, 0, impl.TrlNew(read(top))))
		w := work{Want: 9, Slv: s}
		for k, o := range tells {
			w.Slv = impl.TrlTake(p, 0, w.Slv, read("k(X0)"), k+1, o)
			for w.Slv.Status == impl.SlvGoes || w.Slv.Status == impl.SlvAnswer {
				w.Slv = impl.TrlStep(p, 0, w.Slv)
				if w.Slv.Status == impl.SlvAnswer {
					w.Outs = append(w.Outs, outcome{Status: impl.SlvAnswer, Term: w.Slv.Out})
				}
			}
		}
		return w
	}
	n := nodeState{Up: true, Works: []work{wait("a(X0)"), wait("b(X0)"), wait("c(X0)"), wait("a(X0)", answer("k(1)")), wait("d(X0)"), {Want: 1, Slv: impl.TrlNew(read("e(X0)"))}}}
	n.Works[3].Slv.Top = read("x(X0)")
	n.Works[3].Outs = nil
	s := scene{p, 0, n}
	if !plainNodOk(p, 0, n) {
		t.Fatalf("not ok: %v", s)
	}
	stands := func(n nodeState) string {
		text := ""
		for _, w := range n.Works {
			text += strconv.Itoa(w.Slv.Status)
		}
		return text
	}
	for _, one := range []struct {
		m    message
		want string
	}{
		{tellOf("k(X0)", 1, answer("k(1)")), "116611"}, {tellOf("k(X0)", 2, answer("k(2)")), "666161"}, {tellOf("k(2)", 1, answer("k(2)")), "661661"}, {tellOf("k(X0)", 3, answer("k(2)")), "666661"},
		{tellOf("k(X0)", 1, outcome{Status: impl.SlvNone}), "336631"}, {tellOf("k(X0)", 2, outcome{Status: impl.SlvWrong}), "666561"}, {tellOf("k(2)", 1, outcome{Status: impl.SlvBig}), "664661"}, {tellOf("k(1)", 1, outcome{Status: impl.SlvBig}), "666661"},
	} {
		then, _ := hears(t, s, one.m)
		if got := stands(then); got != one.want {
			t.Errorf("behind %v they stand as %s, want %s", one.m, got, one.want)
		}
		for k, w := range then.Works {
			if ended := plainEnded(w.Slv.Status); ended != ends(w.Outs) || ended && lastStatus(w.Outs) != w.Slv.Status {
				t.Errorf("behind %v the one at %d has %s", one.m, k, showOuts(w.Outs))
			}
		}
	}
}

// TestOneTellingIsTakenOnce: where the choice that took it is gone, and the one ahead waits for just the same, that is for whom it is told next.
func TestOneTellingIsTakenOnce(t *testing.T) {
	p, n := program("at 1 k 1", "k(1)", "d(X0,X1) if k(X0) and k(X1)"), impl.NodNew()
	none := plainMsgBytes(tellOf("k(X0)", 2, outcome{Status: impl.SlvNone}))
	for _, m := range []message{tellOf("k(X0)", 1, answer("k(1)")), tellOf("k(X0)", 1, answer("k(1)"))} {
		n, _ = impl.NodHear(p, 0, n, plainMsgBytes(askOf(3, "d(X0,X1)", 1)))
		n, _ = impl.NodRun(p, 0, n)
		n, _ = hears(t, scene{p, 0, n}, m)
	}
	for k := range 2 {
		n, _ = impl.NodHear(p, 0, n, plainMsgBytes(askOf(3, "d(X0,X1)", k+1)))
		n, _ = impl.NodRun(p, 0, n)
	}
	for k, want := range []string{"d(1,1); ", "d(1,1); ", "d(1,1); none; ", "d(1,1); none; "} {
		w := n.Works[0]
		if _, far := impl.TrlWants(w.Slv); showOuts(w.Outs) != want || (k < 2) != (far == 2) || k < 2 && len(w.Slv.Choices) != 2-k {
			t.Errorf("told %d times, it has %s, and stands as %v", k, showOuts(w.Outs), w.Slv)
		}
		checkHearPlainly(t, scene{p, 0, n}, none)
		n, _ = impl.NodHear(p, 0, n, none)
	}
}

// TestToldWithoutBeingAsked: what waits takes what it is told, wanted or not, asked for or not; and no work becomes one that was asked for.
func TestToldWithoutBeingAsked(t *testing.T) {
	for _, asked := range []bool{false, true} {
		for _, want := range []int{1, 2, impl.SlvFuel} {
			n := richNode()
			n.Works[waitsAt].Asked, n.Works[waitsAt].Want = asked, want
			n.Works[waitsAt].Outs = repeated(answer("h(7)"), 2)
			then, _ := hears(t, scene{richNodeProg(), 0, n}, tellOf("k(X0)", 1, answer("k(1)")))
			if w := then.Works[waitsAt]; w.Slv.Status != impl.SlvGoes || w.Asked != asked || w.Want != want || len(w.Outs) != 2 {
				t.Errorf("it is %v", w)
			}
			then, _ = hears(t, scene{richNodeProg(), 0, n}, tellOf("k(X0)", 1, outcome{Status: impl.SlvNone}))
			if w := then.Works[waitsAt]; w.Slv.Status != impl.SlvNone || w.Asked != asked || w.Want != want || showOuts(w.Outs) != "h(7); h(7); none; " {
				t.Errorf("it is %v", w)
			}
		}
	}
}

// TestWhoIsDownHearsNothing: promise 78.
func TestWhoIsDownHearsNothing(t *testing.T) {
	r := steady()
	for k, s := range scenes() {
		if k%3 > 0 {
			continue
		}
		for _, down := range []nodeState{{}, {Works: []work{}}} {
			for _, m := range append(asksFor(r, s), tellsFor(r, s)...) {
				if then, said := impl.NodHear(s.p, s.node, down, plainMsgBytes(m)); !sameValue(then, down) || !isNothing(said) {
					t.Fatalf("%v: down, behind %v it is %v, and says %v", s, m, then, said)
				}
			}
			if then, all := impl.NodRun(s.p, s.node, down); !sameValue(then, down) || len(all) > 0 {
				t.Fatalf("%v: down, it goes on to %v, and asks %v", s, then, all)
			}
			if !impl.NodOk(s.p, s.node, down) {
				t.Fatalf("%v: down, it is not ok", s)
			}
		}
		if s.n.Up = false; len(s.n.Works) > 0 && impl.NodOk(s.p, s.node, s.n) {
			t.Fatalf("down, with works, it is ok: %v", s)
		}
	}
}
