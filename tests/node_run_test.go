package tests

import (
	"bytes"
	"slices"
	"strconv"
	"testing"

	"loop.example/catechist/impl"
)

// asksOf are what works that were asked for, and lack outcomes, wait for behind they went on.
func asksOf(s scene, then nodeState) []sent {
	var all []sent
	for k, was := range s.n.Works {
		top, far := impl.TrlWants(then.Works[k].Slv)
		if was.Asked && len(was.Outs) < was.Want && far > 0 {
			all = append(all, sent{To: impl.PrgNode(s.p, top), Bytes: plainMsgBytes(message{Kind: impl.MsgAsk, From: s.node, Top: top, N: far})})
		}
	}
	return all
}

// TestNodeGoesOnWithWhatWasAskedFor: promise 44, and what promise 80 says of going on.
func TestNodeGoesOnWithWhatWasAskedFor(t *testing.T) {
	t.Parallel()
	left, went, more, asks := 0, 0, 0, 0
	for _, s := range append(scenes(), scene{richNodeProg(), 0, richNode()}) {
		checkRunPlainly(t, s)
		then, all := impl.NodRun(s.p, s.node, s.n)
		if !impl.NodOk(s.p, s.node, then) || len(then.Works) != len(s.n.Works) || !then.Up {
			t.Fatalf("%v: it goes on to %v", s, then)
		}
		for k, was := range s.n.Works {
			is := then.Works[k]
			if !slices.Equal(is.Slv.Top, was.Slv.Top) || is.Asked || is.Want != was.Want || len(is.Outs) < len(was.Outs) || !sameOuts(is.Outs[:len(was.Outs)], was.Outs) || len(is.Outs) > max(is.Want, len(was.Outs)) {
				t.Fatalf("%v: work %d goes on to %v", s, k, is)
			}
			if !was.Asked || len(was.Outs) >= was.Want {
				left++
				if !sameValue(is.Slv, was.Slv) || len(is.Outs) > len(was.Outs) {
					t.Fatalf("%v: work %d, which nobody asked for or has all, goes on to %v", s, k, is)
				}
				continue
			}
			went++
			more += len(is.Outs) - len(was.Outs)
		}
		if want := asksOf(s, then); !sameValue(all, want) {
			t.Fatalf("%v: it asks %v, want %v", s, all, want)
		}
		asks += len(all)
		for _, one := range all {
			if m, ok := impl.MsgRead(one.Bytes); !ok || m.Kind != impl.MsgAsk || m.From != s.node || one.To == s.node || one.To != impl.PrgNode(s.p, m.Top) {
				t.Fatalf("%v: it says %v to %d", s, m, one.To)
			}
		}
		checkNobodyAsks(t, s, then)
	}
	if left < 2000 || went < 700 || more < 350 || asks < 150 {
		t.Errorf("only %d are left, %d go on to %d outcomes, and ask %d times", left, went, more, asks)
	}
}

// checkNobodyAsks: what nobody asked for since is left as it is, and nothing is asked of other nodes for it.
func checkNobodyAsks(t *testing.T, s scene, then nodeState) {
	t.Helper()
	if again, all := impl.NodRun(s.p, s.node, then); !sameValue(again, then) || len(all) > 0 {
		t.Fatalf("%v: not asked, it goes on to %v, and asks %v", s, again, all)
	}
}

// TestWhatIsWaitedForIsAskedAgain: each time that somebody asks, and by what it waits for then.
func TestWhatIsWaitedForIsAskedAgain(t *testing.T) {
	p := program("at 1 k 1", "at 2 e 2", "h(X0) if k(X0) and e(X0,X1)", "v(X0) if e(X0,X0)", "w(1)")
	n := impl.NodNew()
	for _, top := range []string{"h(X0)", "v(X0)", "w(X0)", "h(7)"} {
		n, _ = impl.NodHear(p, 0, n, plainMsgBytes(askOf(3, top, 1)))
	}
	want := []sent{
		{To: 1, Bytes: plainMsgBytes(askOf(0, "k(7)", 1))}, {To: 2, Bytes: plainMsgBytes(askOf(0, "e(X0,X0)", 1))}, {To: 1, Bytes: plainMsgBytes(askOf(0, "k(X0)", 1))},
	}
	n, all := impl.NodRun(p, 0, n)
	if !sameValue(all, want) || showOuts(n.Works[1].Outs) != "w(1); " {
		t.Fatalf("it asks %v of %v", all, n)
	}
	if _, again := impl.NodRun(p, 0, n); len(again) > 0 {
		t.Fatalf("nobody asked, and it asks %v", again)
	}
	for _, top := range []string{"v(X0)", "h(X0)"} {
		n, _ = impl.NodHear(p, 0, n, plainMsgBytes(askOf(3, top, 1)))
	}
	n, all = impl.NodRun(p, 0, n)
	if !sameValue(all, []sent{want[2], want[1]}) {
		t.Fatalf("asked again, it asks %v", all)
	}
	n, _ = impl.NodHear(p, 0, n, plainMsgBytes(tellOf("k(X0)", 1, answer("k(5)"))))
	if _, none := impl.NodRun(p, 0, n); len(none) > 0 {
		t.Fatalf("told, and not asked, it asks %v", none)
	}
	n, _ = impl.NodHear(p, 0, n, plainMsgBytes(askOf(3, "h(X0)", 1)))
	n, all = impl.NodRun(p, 0, n)
	if !sameValue(all, []sent{{To: 2, Bytes: plainMsgBytes(askOf(0, "e(5,X0)", 1))}}) {
		t.Fatalf("told, it asks %v", all)
	}
	n, _ = impl.NodHear(p, 0, n, plainMsgBytes(tellOf("e(5,X0)", 1, answer("e(5,5)"))))
	n, _ = impl.NodHear(p, 0, n, plainMsgBytes(askOf(1, "h(X0)", 1)))
	n, all = impl.NodRun(p, 0, n)
	n, said := impl.NodHear(p, 0, n, plainMsgBytes(askOf(1, "h(X0)", 1)))
	if len(all) > 0 || said.To != 1 || !bytes.Equal(said.Bytes, plainMsgBytes(tellOf("h(X0)", 1, answer("h(5)")))) || n.Works[0].Want != 1 {
		t.Fatalf("it asks %v, and says %v", all, said)
	}
}

// TestWhatWaitsAndHasAllAsksNothing: of works that wait just those ask that were asked for, and lack outcomes.
func TestWhatWaitsAndHasAllAsksNothing(t *testing.T) {
	for _, asked := range []bool{false, true} {
		for outs := range 4 {
			for want := 1; want <= 4; want++ {
				w := richNode().Works[waitsAt]
				w.Outs, w.Want, w.Asked = repeated(answer("h(7)"), outs), want, asked
				s := scene{richNodeProg(), 0, nodeState{Up: true, Works: []work{w}}}
				checkRunPlainly(t, s)
				then, all := impl.NodRun(s.p, 0, s.n)
				w.Asked = false
				if !sameValue(then.Works, []work{w}) || (len(all) > 0) != (asked && outs < want) {
					t.Errorf("asked %t, with %d of %d, it asks %v, and is %v", asked, outs, want, all, then)
				}
			}
		}
	}
}

// stepsProg counts down, and does some steps more.
func stepsProg() prog {
	return program("n(0)", "n(X0) if 0 < X0 and X0 + -1 = X1 and n(X1)", "a(X0) if n(X0)", "b(X0) if n(X0) and 1 = 1", "c(X0) if n(X0) and 1 = 1 and 1 = 1", "d(X0) if n(X0) and 1 = 1 and 1 = 1 and 1 = 1")
}

// bySteps are questions of stepsProg by how many steps one machine takes to the first outcome.
func bySteps() map[int]string {
	all := map[int]string{}
	for _, name := range []string{"a", "b", "c", "d"} {
		for k := range 25 {
			top := name + "(" + strconv.Itoa(k) + ")"
			_, steps := impl.SlvOuts(stepsProg(), read(top), 1, impl.SlvFuel)
			all[steps] = top
		}
	}
	return all
}

// TestSoManyStepsAtOnce: NodSlice, and one more.
func TestSoManyStepsAtOnce(t *testing.T) {
	p, all := stepsProg(), bySteps()
	seen := 0
	for steps, top := range all {
		s := scene{p, 0, impl.NodNew()}
		runs := 0
		for {
			s.n, _ = hears(t, s, askOf(3, top, 1))
			if len(s.n.Works[0].Outs) > 0 {
				break
			}
			checkRunPlainly(t, s)
			s.n, _ = impl.NodRun(p, 0, s.n)
			runs++
			checkNobodyAsks(t, s, s.n)
		}
		if want := (steps + impl.NodSlice - 1) / impl.NodSlice; runs != want || s.n.Works[0].Slv.Status != impl.SlvAnswer {
			t.Errorf("%s takes %d steps, and %d times to go on", top, steps, runs)
		}
		if steps >= impl.NodSlice-1 && steps <= impl.NodSlice+1 || steps >= 2*impl.NodSlice-1 && steps <= 2*impl.NodSlice+1 {
			seen++
		}
	}
	if seen < 6 {
		t.Errorf("only %d take as many steps as are done at once, or one more: %v", seen, all)
	}
}

// TestEachWorkHasItsOwnSteps: so many at each, however many works there are.
func TestEachWorkHasItsOwnSteps(t *testing.T) {
	p := stepsProg()
	n := impl.NodNew()
	for k := range impl.NodMost {
		n, _ = impl.NodHear(p, 0, n, plainMsgBytes(askOf(3, "n("+strconv.Itoa(1000+k)+")", 1)))
	}
	checkRunPlainly(t, scene{p, 0, n})
	then, _ := impl.NodRun(p, 0, n)
	for k, w := range then.Works {
		s := impl.TrlNew(n.Works[k].Slv.Top)
		for range impl.NodSlice {
			s = impl.TrlStep(p, 0, s)
		}
		if !sameValue(w.Slv, s) || len(w.Outs) > 0 {
			t.Errorf("the one at %d goes on to %v", k, w)
		}
	}
}

// TestSeveralOutcomesAtOnce: as many as are wanted, if there are enough steps for them, and no more.
func TestSeveralOutcomesAtOnce(t *testing.T) {
	p := program("e(a)", "e(b)", "e(c)", "e(d)", "q(X0,X1) if e(X0) and e(X1)")
	for _, one := range []struct {
		top  string
		want int
		outs string
	}{
		{"e(X0)", 1, "e(a); "}, {"e(X0)", 2, "e(a); e(b); "}, {"e(X0)", 4, "e(a); e(b); e(c); e(d); "}, {"e(X0)", 5, "e(a); e(b); e(c); e(d); none; "}, {"e(X0)", 6, "e(a); e(b); e(c); e(d); none; "},
		{"e(X0)", impl.SlvFuel, "e(a); e(b); e(c); e(d); none; "}, {"zz", 1, "none; "}, {"zz", 3, "none; "}, {"q(X0,X1)", 3, "q(a,a); q(a,b); q(a,c); "},
	} {
		n := nodeState{Up: true, Works: []work{{Want: one.want, Asked: true, Slv: impl.TrlNew(read(one.top))}}}
		checkRunPlainly(t, scene{p, 0, n})
		then, _ := impl.NodRun(p, 0, n)
		if got := showOuts(then.Works[0].Outs); got != one.outs {
			t.Errorf("of %s, %d wanted, it has %s", one.top, one.want, got)
		}
	}
	// By so many steps one machine comes as far.
	for _, want := range []int{10, 100, impl.SlvFuel} {
		n := nodeState{Up: true, Works: []work{{Want: want, Asked: true, Slv: impl.TrlNew(read("q(X0,X1)"))}}}
		then, _ := impl.NodRun(p, 0, n)
		if outs, _ := impl.SlvOuts(p, read("q(X0,X1)"), want, impl.NodSlice); !sameOuts(then.Works[0].Outs, outs) || len(outs) < 5 {
			t.Errorf("with %d wanted it has %s", want, showOuts(then.Works[0].Outs))
		}
	}
}

// TestAsManyOutcomesAsThereCanBe: the last one comes, and then none; and all of them are told.
func TestAsManyOutcomesAsThereCanBe(t *testing.T) {
	t.Parallel()
	p, top := program("e(a)", "e(b)", "e(c)"), read("e(X0)")
	s := impl.TrlStep(p, 0, impl.TrlStep(p, 0, impl.TrlStep(p, 0, impl.TrlNew(top))))
	for _, one := range []struct{ outs, want, then int }{
		{impl.SlvFuel - 2, impl.SlvFuel, impl.SlvFuel}, {impl.SlvFuel - 1, impl.SlvFuel, impl.SlvFuel}, {impl.SlvFuel, impl.SlvFuel, impl.SlvFuel}, {impl.SlvFuel - 1, impl.SlvFuel - 1, impl.SlvFuel - 1}, {impl.SlvFuel, 1, impl.SlvFuel},
	} {
		w := work{Outs: repeated(answer("e(a)"), one.outs), Want: one.want, Asked: true, Slv: s}
		n := nodeState{Up: true, Works: []work{w}}
		then, all := impl.NodRun(p, 0, n)
		is := then.Works[0]
		if !impl.NodOk(p, 0, then) || len(is.Outs) != one.then || len(all) > 0 || is.Asked || !sameOuts(is.Outs[:one.outs], w.Outs) {
			t.Fatalf("with %d of %d it has %d", one.outs, one.want, len(is.Outs))
		}
		if last := impl.TrmText(lastOut(is.Outs).Term); one.then > one.outs && last != map[int]string{1: "e(b)", 2: "e(c)"}[one.then-one.outs] {
			t.Errorf("the last one is %s", last)
		}
		_, said := impl.NodHear(p, 0, then, plainMsgBytes(message{Kind: impl.MsgAsk, From: 3, Top: top, N: one.then}))
		if tell := plainMsgBytes(message{Kind: impl.MsgTell, Top: top, N: one.then, Out: lastOut(is.Outs)}); !bytes.Equal(said.Bytes, tell) || said.To != 3 {
			t.Errorf("the last one is told as %v", said)
		}
	}
}

// TestWhatHasEndedIsNotGoneOnWith: promise 92.
func TestWhatHasEndedIsNotGoneOnWith(t *testing.T) {
	t.Parallel()
	seen := map[int]int{}
	for _, s := range append(scenes(), scene{richNodeProg(), 0, richNode()}) {
		for _, was := range s.n.Works {
			if !ends(was.Outs) {
				continue
			}
			seen[was.Slv.Status]++
			n := s.n
			for from := range impl.MsgClient + 1 {
				for _, k := range []int{len(was.Outs) + 1, len(was.Outs) + 2, impl.SlvFuel} {
					n, _ = impl.NodHear(s.p, s.node, n, plainMsgBytes(message{Kind: impl.MsgAsk, From: from, Top: was.Slv.Top, N: k}))
				}
				n, _ = impl.NodRun(s.p, s.node, n)
			}
			if is, _ := workOn(n, was.Slv.Top); !sameValue(is.Slv, was.Slv) || !sameOuts(is.Outs, was.Outs) || is.Want > max(was.Want, len(was.Outs)+1) {
				t.Fatalf("%v: %v goes on to %v", s, was, is)
			}
		}
	}
	if seen[impl.SlvNone] < 500 || seen[impl.SlvWrong] < 20 || seen[impl.SlvBig] < 3 {
		t.Errorf("only so many have ended: %v", seen)
	}
}

// TestSolvingThatIsNotOkBehindAStep: a node of solving that no question began goes on by the words of each step; what is not ok any more is nothing behind the next one.
func TestSolvingThatIsNotOkBehindAStep(t *testing.T) {
	p := program("a", "b")
	cut := func(more ...pending) work {
		goals := append([]pending{{Goal: cutHere()}}, more...)
		return work{Want: 3, Asked: true, Slv: trailState{Status: impl.SlvGoes, Goals: goals, Choices: []trailChoice{{Call: read("a"), Next: 0}}, Top: read("x")}}
	}
	late := pending{Goal: cutHere(), Cut: 1}
	top := read("y(f(X0,X1,X2),f(X3,X4,X5),f(X6,X7,X8))")
	less := work{Want: 2, Asked: true, Slv: trailState{Status: impl.SlvGoes, Goals: []pending{{Goal: lessOf("1", "0")}}, Vars: 9, Choices: []trailChoice{{Goals: []pending{{Goal: callOf("b")}}, Call: read("a"), Next: 0}}, Top: top}}
	for _, one := range []struct {
		w    work
		outs int
	}{{cut(), 2}, {cut(late), 1}, {cut(pending{Goal: callOf("a")}, late), 1}, {less, 1}} {
		s := scene{p, 0, nodeState{Up: true, Works: []work{one.w}}}
		if !plainNodOk(p, 0, s.n) {
			t.Fatalf("not ok: %v", s)
		}
		checkNodePlainly(t, s, plainMsgBytes(message{Kind: impl.MsgAsk, Top: one.w.Slv.Top, N: 1}))
		if then, _ := impl.NodRun(p, 0, s.n); len(then.Works[0].Outs) != one.outs {
			t.Errorf("%v goes on to %v", one.w, then)
		}
	}
}

// TestNodesInASmallWorld: what is heard and gone on with, whatever happens, is as plainly told; each outcome that a node has is the one that one machine tells; and the node is ok.
func TestNodesInASmallWorld(t *testing.T) {
	t.Parallel()
	r := steady()
	outs, heard := 0, 0
	for k, q := range spreadPosed(60) {
		for _, one := range walked(r, q, 120) {
			if !plainNodOk(one.p, one.node, one.n) {
				t.Fatalf("%d: not ok: %v", k, one.scene)
			}
			checkNodePlainly(t, one.scene, one.bytes)
			heard += min(len(one.bytes), 1)
			for _, w := range one.n.Works {
				want, steps := impl.SlvOuts(one.p, w.Slv.Top, len(w.Outs), impl.SlvFuel)
				if len(want) < len(w.Outs) && steps < impl.SlvFuel || !sameOuts(want, w.Outs[:len(want)]) {
					t.Fatalf("%v: %s has %s, want %s", one.scene, impl.TrmText(w.Slv.Top), showOuts(w.Outs), showOuts(want))
				}
				outs += len(want)
			}
		}
	}
	if outs < 3000 || heard < 2000 {
		t.Errorf("only %d outcomes, and %d messages", outs, heard)
	}
}

// TestExampleByNodes: what the document's example tells, by nodes alone.
func TestExampleByNodes(t *testing.T) {
	p := program("at 1 e 2", "at 2 p 2", "e(a,b)", "e(b,c)", "e(a,c)", "p(X0,X1) if e(X0,X1)", "p(X0,X2) if e(X0,X1) and p(X1,X2)", "q(X0) if p(a,X0) and !", "q(z)")
	w := smallOf(posed{p, read("q(X0)")})
	steps := func(words ...string) {
		for _, word := range words {
			switch word[:1] {
			case "a":
				w.ask()
			case "h":
				w.hear(0)
			case "r":
				w.run(int(word[1] - '0'))
			}
		}
	}
	on := func() { steps("a", "h", "r0", "h", "r2") }
	on()
	steps("h", "r1")
	on2 := func() { on(); steps("h") }
	on2()
	if len(w.mail) != 1 || w.mail[0].To != 2 {
		t.Fatalf("on their way is %v", w.mail)
	}
	w.mail[0].Bytes[9] ^= 4
	steps("h")
	on2()
	w.mail = append(w.mail, w.mail[0])
	steps("h", "h")
	on()
	steps("a", "h", "r0", "h")
	w.nodes[2] = nodeState{}
	steps("h", "a", "h", "r0", "a", "h", "h")
	if len(w.nodes[0].Works) != 1 || len(w.nodes[1].Works) != 1 || w.nodes[2].Up || len(w.mail) != 0 || showOuts(w.outs) != "q(b); " {
		t.Errorf("it is %v, with %v on their way, and %s", w.nodes, w.mail, showOuts(w.outs))
	}
}
