package tests

import (
	"slices"
	"testing"

	"loop.example/catechist/impl"
)

// truth is what one machine tells of a program's questions, as far as SlvFuel steps lead; each is asked seldom.
type truth struct {
	p     prog
	known map[string]toldOuts
}

// toldOuts is the first outcomes of a question, as many as most, if there are so many.
type toldOuts struct {
	outs []outcome
	most int
}

func truthOf(p prog) *truth { return &truth{p, map[string]toldOuts{}} }

// tells says whether one machine tells just that as the n-th outcome of a question, or does not come so far.
func (o *truth) tells(top []cell, n int, is outcome) bool {
	key := impl.TrmText(top)
	one := o.known[key]
	if n > one.most {
		outs, _ := impl.SlvOuts(o.p, top, n+8, impl.SlvFuel)
		one = toldOuts{outs, n + 8}
		o.known[key] = one
	}
	if n > len(one.outs) {
		return !ends(one.outs)
	}
	return sameOuts(one.outs[n-1:n], []outcome{is})
}

// tellsAll says whether outcomes are the first ones of a question.
func (o *truth) tellsAll(top []cell, outs []outcome) bool {
	for k, is := range outs {
		if !o.tells(top, k+1, is) {
			return false
		}
	}
	return true
}

// checkTold: promises 5 and 7: all that has come, that a node has, or that is on its way and not bent, is what one machine tells. It is how many outcomes that were.
func checkTold(t *testing.T, o *truth, w world) int {
	t.Helper()
	if !o.tellsAll(w.Top, w.Outs) {
		t.Fatalf("what has come is not what one machine tells: %s", showWorld(w))
	}
	seen := 0
	for k, n := range w.Nodes {
		for _, one := range n.Works {
			seen += len(one.Outs)
			if !o.tellsAll(one.Slv.Top, one.Outs) {
				t.Fatalf("%s has what one machine does not tell: %s", atNode(k), showWorld(w))
			}
		}
	}
	for _, one := range w.Net {
		m, ok := impl.MsgRead(one.Bytes)
		if ok == one.Bent {
			t.Fatalf("bent is read, or what is not bent is not: %s", showWorld(w))
		}
		if ok && m.Kind == impl.MsgTell {
			seen++
			if !o.tells(m.Top, m.N, m.Out) {
				t.Fatalf("on its way is what one machine does not tell: %s", showWorld(w))
			}
		}
	}
	return seen
}

// TestWhateverHappensOutcomesAreThoseOfOneMachine: promises 5, 7 and 49, and that a world stays one, whatever is lost, doubled, late or bent, and whoever falls.
func TestWhateverHappensOutcomesAreThoseOfOneMachine(t *testing.T) {
	t.Parallel()
	r := steady()
	came, seen, ended, falls := 0, 0, 0, 0
	for k, q := range worldPosed(150) {
		for _, harms := range []int{3, 25} {
			o := truthOf(q.p)
			steps := 0
			w := wild(r, q, 200, harms, func(w world, e event, then world) {
				if len(then.Outs) > len(w.Outs)+1 || !sameOuts(then.Outs[:len(w.Outs)], w.Outs) || !o.tellsAll(q.top, then.Outs) {
					t.Fatalf("behind %v %s has %s", e, showWorld(w), showOuts(then.Outs))
				}
				if ends(w.Outs) && (len(then.Outs) > len(w.Outs) || e.Kind == impl.EvAsk && !sameValue(then, w)) {
					t.Fatalf("behind the end, and %v, %s is %s", e, showWorld(w), showWorld(then))
				}
				if e.Kind == impl.EvFall && nodeIsThere(e.At) && len(w.Nodes[e.At].Works) > 0 {
					falls++
				}
				if steps++; steps%10 == k%10 {
					seen += checkTold(t, o, then)
				}
			})
			if !impl.WldOk(w) || !sameValue(w.Prog, q.p) || !slices.Equal(w.Top, q.top) {
				t.Fatalf("it does not stay a world: %s", showWorld(w))
			}
			came += len(w.Outs)
			if ends(w.Outs) {
				ended++
			}
		}
	}
	if came < 600 || seen < 8000 || ended < 200 || falls < 500 {
		t.Errorf("only %d outcomes came, %d were seen on their way, %d came to their end, %d fell that worked", came, seen, ended, falls)
	}
}

// TestWhereAllIsDoneAtOneNode: promise 47.
func TestWhereAllIsDoneAtOneNode(t *testing.T) {
	t.Parallel()
	r := steady()
	outside, inside := 0, 0
	for _, q := range worldPosed(60) {
		wild(r, alone(q), 120, 8, func(_ world, e event, then world) {
			for _, m := range then.Net {
				switch m.To {
				case 0:
					inside++
				case impl.MsgClient:
					outside++
				default:
					t.Fatalf("behind %v: %s", e, showWorld(then))
				}
			}
			if len(then.Nodes[1].Works)+len(then.Nodes[2].Works) > 0 {
				t.Fatalf("behind %v another one works: %s", e, showWorld(then))
			}
		})
	}
	if outside < 2000 || inside < 2000 {
		t.Errorf("only %d and %d are on their way", inside, outside)
	}
}

// TestBehindTheEndThereIsNothing: promise 49, by each end, with all that is on its way heard, and said over again.
func TestBehindTheEndThereIsNothing(t *testing.T) {
	t.Parallel()
	r, seen := steady(), map[int]int{}
	for _, q := range worldPosed(60) {
		if all, _ := impl.SlvOuts(q.p, q.top, 9, 200); !ends(all) {
			continue
		}
		w, _ := comesAll(impl.WldNew(q.p, q.top), 9)
		seen[lastStatus(w.Outs)]++
		outs := w.Outs
		for range 60 {
			m := message{Kind: impl.MsgAsk, From: impl.MsgClient, Top: q.top, N: 1 + r.IntN(len(outs)+2)}
			w.Net = append(w.Net, netMsg{To: impl.PrgNode(q.p, q.top), Bytes: impl.MsgBytes(m)})
			told := message{Kind: impl.MsgTell, Top: q.top, N: len(outs) + r.IntN(3), Out: pick(r, append(endOuts(), answersTo(q.top)...))}
			w.Net = append(w.Net, netMsg{To: impl.MsgClient, Bytes: plainMsgBytes(told)})
			for range 4 {
				w = impl.WldStep(w, anyEvent(r, w, 5))
			}
			if asked := impl.WldStep(w, event{Kind: impl.EvAsk}); !sameValue(asked, w) || !sameOuts(w.Outs, outs) {
				t.Fatalf("behind the end it has %s, and asks for more: %s", showOuts(w.Outs), showWorld(asked))
			}
			w.Net = w.Net[:min(len(w.Net), 20)]
		}
	}
	if seen[impl.SlvNone] < 40 || seen[impl.SlvWrong] < 3 || seen[impl.SlvBig] < 2 {
		t.Errorf("only so many come to their end: %v", seen)
	}
}

// TestBentIsAsGoodAsLost: promise 50, at each byte of what comes on its way.
func TestBentIsAsGoodAsLost(t *testing.T) {
	t.Parallel()
	r := steady()
	seen := 0
	for _, w := range wildWorlds(r, worldPosed(80), 80) {
		for at := range min(len(w.Net), 3) {
			lost := impl.WldStep(w, event{Kind: impl.EvLose, At: at})
			for pos := range w.Net[at].Bytes {
				bend := event{Kind: impl.EvBend, At: at, Pos: pos, V: 1 + r.IntN(255)}
				all := []event{bend}
				if pos%2 == 0 {
					// Bent just so once more it would be as it was.
					all = append(all, bend)
				}
				heard := impl.WldRun(w, append(all, event{Kind: impl.EvHear, At: at}))
				if !sameValue(heard, lost) {
					t.Fatalf("behind %v it is heard: %s\nis\n%s", all, showWorld(w), showWorld(heard))
				}
				seen++
			}
		}
	}
	if seen < 2500 {
		t.Errorf("only %d are bent", seen)
	}
}

// calmEvents is what happens, thing by thing, in calm rounds until a world has all outcomes of its question, or so many.
func calmEvents(w world, most int) []event {
	var all []event
	for round := 0; round < 60 && len(w.Outs) < most && !ends(w.Outs); round++ {
		w = plainRound(w, func(w world, e event) world {
			all = append(all, e)
			return impl.WldStep(w, e)
		})
	}
	return all
}

// comesAll is a world behind so many calm rounds as lead to as many outcomes, and whether they did within 300.
func comesAll(w world, most int) (world, bool) {
	for round := 0; round < 300 && len(w.Outs) < most && !ends(w.Outs); round += 3 {
		w = impl.WldCalm(w, 3)
	}
	return w, len(w.Outs) >= most
}

// TestWhoFallsInTheMidst: ahead of each thing that happens on the way to all outcomes each node falls, or each message is lost, doubled, or bent; and then, in a calm, come just the outcomes that had not, in order.
func TestWhoFallsInTheMidst(t *testing.T) {
	t.Parallel()
	tried, forgot := 0, 0
	all := questionsOf(handFar()[0].p, "p(a,X0)", "q(X0)", "e(a,X0)")
	all = append(all, questionsOf(handWorld()[0].p, "d(c(a,nil),X0)")...)
	all = append(all, questionsOf(factsProg(), "f(X0)", "f(X0,b)")...)
	all = append(all, handFar()[8:]...)
	for _, q := range all {
		want, _ := impl.SlvOuts(q.p, q.top, 4, 300)
		o, begin := truthOf(q.p), impl.WldNew(q.p, q.top)
		way := calmEvents(begin, len(want))
		for k := range way {
			w := impl.WldRun(begin, way[:min(k, impl.EvMaxRun)])
			for _, harm := range harmsAt(w, k) {
				then := impl.WldRun(w, harm)
				behind, came := comesAll(then, len(want))
				if !came || !sameOuts(behind.Outs[:len(want)], want) {
					t.Fatalf("%v: behind %d things and %v it has %s, want %s", q, k, harm, showOuts(behind.Outs), showOuts(want))
				}
				checkTold(t, o, then)
				checkTold(t, o, behind)
				tried++
				if !sameValue(then.Nodes, w.Nodes) {
					forgot++
				}
			}
		}
	}
	if tried < 5000 || forgot < 2500 {
		t.Errorf("only %d are tried, and in %d somebody forgets", tried, forgot)
	}
}

// harmsAt is what may befall a world: a node falls, or all do, and a message is lost, doubled, bent, or late.
func harmsAt(w world, k int) [][]event {
	all := [][]event{{{Kind: impl.EvFall, At: k % 3}}, {{Kind: impl.EvFall, At: (k + 1) % 3}, {Kind: impl.EvRise, At: (k + 1) % 3}}}
	if k%5 == 0 {
		all = append(all, []event{{Kind: impl.EvFall}, {Kind: impl.EvFall, At: 1}, {Kind: impl.EvFall, At: 2}})
	}
	at := k / 4 % 2 * (len(w.Net) - 1)
	if !mailAt(w, at) {
		return all
	}
	lose, twice := event{Kind: impl.EvLose, At: at}, event{Kind: impl.EvTwice, At: at}
	bend := event{Kind: impl.EvBend, At: at, Pos: k % len(w.Net[at].Bytes), V: 1 + k%255}
	return append(all, [][]event{{lose}, {twice, twice}, {bend}, {twice, lose, {Kind: impl.EvAsk}}}[k%4])
}

// TestWhoForgetsIsAskedForAllAgain: a node that fell behind outcomes that have come is asked for the next one, and makes the others anew first; what comes is the next one.
func TestWhoForgetsIsAskedForAllAgain(t *testing.T) {
	q := questionsOf(factsProg(), "f(X0)")[0]
	w := impl.WldNew(q.p, q.top)
	for n := 1; n <= 4; n++ {
		for round := 0; round < 9 && len(w.Outs) < n; round++ {
			w = impl.WldCalm(w, 1)
		}
		if len(w.Outs) != n {
			t.Fatalf("%d outcomes want to come: %s", n, showWorld(w))
		}
		w = impl.WldRun(w, []event{{Kind: impl.EvFall, At: 1}, {Kind: impl.EvRise, At: 1}})
		then := impl.WldCalm(w, 1)
		if n < 4 && (len(then.Outs) != n || showOuts(then.Nodes[1].Works[0].Outs) != "f(a); ") {
			t.Errorf("having forgotten %d outcomes, it is %s", n, showWorld(then))
		}
	}
	if showOuts(w.Outs) != "f(a); f(b); f(c); none; " {
		t.Errorf("it has %s", showOuts(w.Outs))
	}
}
