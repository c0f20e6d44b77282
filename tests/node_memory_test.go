package tests

import (
	"bytes"
	"runtime"
	"sync"
	"testing"
	"time"

	"loop.example/catechist/impl"
)

// checkNodeMemory calls each function of the chapter on a program, a node and bytes that have spare room.
func checkNodeMemory(t *testing.T, s scene, b []byte) {
	t.Helper()
	p, n := roomy(s.p), roomy(s.n)
	b = roomy(b)
	given := []any{p, n, b}
	checkMemory(t, "NodOk", given, func() []any { impl.NodOk(p, s.node, n); return nil })
	checkMemory(t, "NodHear", given, func() []any {
		then, said := impl.NodHear(p, s.node, n, b)
		return []any{then, said}
	})
	checkMemory(t, "NodRun", given, func() []any {
		then, all := impl.NodRun(p, s.node, n)
		return []any{then, all}
	})
	checkMemory(t, "NodNew", given, func() []any { return []any{impl.NodNew(), impl.NodNew()} })
}

// TestNodesAreNewMemory: no answer shares memory with an argument, no two lists of one answer share any, and nothing is written into an argument.
func TestNodesAreNewMemory(t *testing.T) {
	t.Parallel()
	r := steady()
	for k, s := range append(scenes(), scene{richNodeProg(), 0, richNode()}) {
		if k%6 > 0 && len(s.n.Works) < impl.NodMost {
			continue
		}
		checkNodeMemory(t, s, plainMsgBytes(pick(r, asksFor(r, s))))
		for _, m := range few(r, tellsFor(r, s), 2) {
			checkNodeMemory(t, s, plainMsgBytes(m))
		}
		checkNodeMemory(t, s, pick(r, noMessages(r)))
	}
	for _, b := range bytesForAll() {
		checkNodeMemory(t, scene{richNodeProg(), 0, richNode()}, b)
		checkNodeMemory(t, scene{richNodeProg(), 0, nodeState{}}, b)
		checkNodeMemory(t, scene{richNodeProg(), 1, impl.NodNew()}, b)
	}
	one := message{Kind: impl.MsgAsk, From: 2, Top: fullScene().n.Works[20].Slv.Top, N: 1}
	checkNodeMemory(t, fullScene(), plainMsgBytes(one))
	checkNodeMemory(t, fullScene(), plainMsgBytes(askOf(1, "c(77)", 1)))
}

// TestWrongNodesAreNewMemory: what is not ok is not written to either.
func TestWrongNodesAreNewMemory(t *testing.T) {
	t.Parallel()
	for _, one := range harmfulNode() {
		n := richNode()
		if one.turn(&n); len(n.Works) > 2*impl.NodMost || manyOuts(n) {
			continue
		}
		checkNodeMemory(t, scene{richNodeProg(), 0, n}, plainMsgBytes(askOf(3, "e(X0)", 1)))
		checkNodeMemory(t, scene{richNodeProg(), 0, n}, plainMsgBytes(tellOf("k(X0)", 1, answer("k(1)"))))
	}
	r := steady()
	for range 300 {
		s := scene{richNodeProg(), 0, noSpareOf(richNode())}
		turnNode(r, &s.n)
		checkNodeMemory(t, s, plainMsgBytes(pick(r, asksFor(r, scene{s.p, 0, richNode()}))))
	}
	for _, p := range wrongProgs()[:60] {
		if !isVast(p) {
			checkNodeMemory(t, scene{p, 0, richNode()}, plainMsgBytes(askOf(3, "e(X0)", 1)))
		}
	}
}

// manyOuts says whether a node has so many outcomes that to look at all its memory takes long.
func manyOuts(n nodeState) bool {
	count := 0
	for _, w := range n.Works {
		count += len(w.Outs)
	}
	return count > 1000
}

// TestNodeOfSharedLists: what lies in one memory when it is given does not in the answer.
func TestNodeOfSharedLists(t *testing.T) {
	p, x := program("at 1 k 1", "e(a)", "e(b)", "h(X0) if k(X0)"), read("e(X0)")
	s := impl.TrlStep(p, 0, impl.TrlStep(p, 0, impl.TrlStep(p, 0, impl.TrlNew(x))))
	outs := []outcome{{Status: impl.SlvAnswer, Term: x}, {Status: impl.SlvAnswer, Term: s.Out}}
	other := s
	other.Top, other.Choices = s.Out, nil
	n := nodeState{Up: true, Works: []work{{Outs: outs, Want: 9, Asked: true, Slv: s}, {Outs: outs[1:], Want: 9, Asked: true, Slv: other}}}
	if !plainNodOk(p, 0, n) {
		t.Fatalf("not ok: %v", n)
	}
	for _, m := range []message{{Kind: impl.MsgAsk, From: 3, Top: x, N: 2}, {Kind: impl.MsgAsk, From: 3, Top: s.Out, N: 1}, askOf(3, "h(X0)", 1), tellOf("k(X0)", 1, answer("k(b)"))} {
		b := plainMsgBytes(m)
		given := []any{p, n, b}
		checkMemory(t, "NodHear", given, func() []any { then, said := impl.NodHear(p, 0, n, b); return []any{then, said} })
		checkMemory(t, "NodRun", given, func() []any { then, all := impl.NodRun(p, 0, n); return []any{then, all} })
		checkNodePlainly(t, scene{p, 0, n}, b)
	}
	// One question asked by many: several works wait for it, and what they ask lies in lists of its own.
	wait := impl.NodNew()
	for _, top := range []string{"h(X0)", "h(a)", "h(f(X0,X1))"} {
		wait, _ = impl.NodHear(p, 0, wait, plainMsgBytes(askOf(3, top, 1)))
	}
	checkMemory(t, "NodRun", []any{p, wait}, func() []any { then, all := impl.NodRun(p, 0, wait); return []any{then, all} })
}

// TestNothingOfNodesIsKept: what is done to one answer, or to bytes behind a call, is not seen in the next one.
func TestNothingOfNodesIsKept(t *testing.T) {
	p, n := richNodeProg(), richNode()
	ask := plainMsgBytes(askOf(2, "h(1)", 1))
	then, said := impl.NodHear(p, 0, n, ask)
	was, say := noSpareOf(then), bytes.Clone(said.Bytes)
	clear(said.Bytes)
	clear(then.Works[0].Outs[0].Term)
	clear(then.Works[0].Outs)
	clear(then.Works[1:])
	again, same := impl.NodHear(p, 0, n, ask)
	if !sameValue(again, was) || !bytes.Equal(same.Bytes, say) || !sameValue(n, richNode()) {
		t.Errorf("%v, and then %v, %v", was, again, same)
	}
	run, all := impl.NodRun(p, 0, n)
	want, asks := noSpareOf(run), noSpareOf(all)
	for _, one := range all {
		clear(one.Bytes)
	}
	clear(all)
	clear(run.Works)
	if run, all = impl.NodRun(p, 0, n); !sameValue(run, want) || !sameValue(all, asks) || len(asks) == 0 {
		t.Errorf("%v, and then %v, %v", want, run, all)
	}
	fresh := plainMsgBytes(askOf(2, "e(f(X0,b))", 1))
	then, _ = impl.NodHear(p, 0, n, fresh)
	was = noSpareOf(then)
	clear(fresh)
	if !sameValue(then, was) {
		t.Errorf("bytes are written over, and it is %v", then)
	}
}

// TestNobodyIsLeft: when calls have answered there are no more goroutines than there were, whatever bytes were heard.
func TestNobodyIsLeft(t *testing.T) {
	p, n := richNodeProg(), richNode()
	all := bytesForAll()
	before := runtime.NumGoroutine()
	for range 200 {
		for _, b := range all {
			impl.NodHear(p, 0, n, b)
			impl.NodHear(p, 0, nodeState{}, b)
			impl.NodHear(p, -1, n, b)
			impl.NodHear(p, 1, n, b)
		}
		impl.NodRun(p, 0, n)
	}
	// One that has told all may still be on its way out.
	for k := 0; k < 200 && runtime.NumGoroutine() > before; k++ {
		time.Sleep(5 * time.Millisecond)
	}
	if after := runtime.NumGoroutine(); after > before {
		t.Errorf("there were %d, and are %d", before, after)
	}
}

// TestNodesSideBySide: many calls at once of one node answer as one alone does.
func TestNodesSideBySide(t *testing.T) {
	p, n := richNodeProg(), richNode()
	all := bytesForAll()
	run, asks := impl.NodRun(p, 0, n)
	var wants []nodeState
	var says []sent
	for _, b := range all {
		then, said := impl.NodHear(p, 0, n, b)
		wants, says = append(wants, then), append(says, said)
	}
	var group sync.WaitGroup
	for k := range 16 {
		group.Go(func() {
			for i, b := range all {
				if k%4 == 0 {
					if then, said := impl.NodRun(p, 0, n); !sameValue(then, run) || !sameValue(said, asks) {
						t.Errorf("it goes on to %v, and asks %v", then, said)
					}
				}
				if then, said := impl.NodHear(p, 0, n, b); !sameValue(then, wants[i]) || !sameValue(said, says[i]) {
					t.Errorf("behind % x it is %v, and says %v", b, then, said)
				}
			}
		})
	}
	group.Wait()
}
