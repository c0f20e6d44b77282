package tests

import (
	"fmt"
	"math"
	"math/rand/v2"
	"reflect"
	"slices"
	"strconv"
	"testing"

	"loop.example/catechist/impl"
)

type nodeTurn struct {
	what string
	turn func(*nodeState)
}

// The places of richNode's works, by how each one stands.
const (
	goesAt = iota
	waitsAt
	answersAt
	noneAt
	bigAt
	wrongAt
	againAt
)

// richNodeProg has questions at node 0 that end in each way.
func richNodeProg() prog {
	return program("at 1 k 1", "at 2 w 1", "k(1)", "k(2)", "h(X0) if k(X0)", "e(a)", "e(b)", "big(X0) if big(g(X0))", "bad(1)", "bad(X0) if X0 < a")
}

// workBehind is how a question is worked at at node 0 of richNodeProg behind so many steps, with two outcomes more wanted than there are.
func workBehind(top string, steps int) work {
	all := worksOf(posed{richNodeProg(), read(top)}, 0, steps)
	w := all[len(all)-1]
	w.Want, w.Asked = len(w.Outs)+2, true
	return w
}

// richNode is node 0 of richNodeProg with works that stand in each way.
func richNode() nodeState {
	return nodeState{Up: true, Works: []work{
		goesAt: workBehind("e(X0)", 1), waitsAt: workBehind("h(X0)", 2), answersAt: workBehind("e(b)", 3), noneAt: workBehind("zz", 9),
		bigAt: workBehind("big(X0)", 300), wrongAt: workBehind("bad(X0)", 20), againAt: workBehind("h(1)", 40),
	}}
}

func TestRichNodeIsAsMeant(t *testing.T) {
	for k, status := range map[int]int{goesAt: impl.SlvGoes, waitsAt: impl.SlvWaits, answersAt: impl.SlvAnswer, noneAt: impl.SlvNone, bigAt: impl.SlvBig, wrongAt: impl.SlvWrong, againAt: impl.SlvNone} {
		if got := richNode().Works[k].Slv.Status; got != status {
			t.Errorf("work %d stands as %d, want %d", k, got, status)
		}
	}
	for k, want := range map[int]string{goesAt: "", waitsAt: "", answersAt: "e(b); ", noneAt: "none; ", bigAt: "too big; ", wrongAt: "bad(1); wrong; ", againAt: "h(1); none; "} {
		if got := showOuts(richNode().Works[k].Outs); got != want {
			t.Errorf("work %d has %s", k, got)
		}
	}
}

// repeated is an outcome so many times.
func repeated(o outcome, n int) []outcome { return slices.Repeat([]outcome{o}, n) }

// harmlessNode turns richNode to what is ok as well.
func harmlessNode() []nodeTurn {
	all := []nodeTurn{
		{"as it is", func(n *nodeState) {}},
		{"no works", func(n *nodeState) { n.Works = nil }},
		{"down, without works", func(n *nodeState) { *n = nodeState{} }},
		{"down, with an empty list", func(n *nodeState) { *n = nodeState{Works: []work{}} }},
		{"as many works as there can be", func(n *nodeState) { *n = fullOf(impl.NodMost) }},
		{"another order", func(n *nodeState) { slices.Reverse(n.Works) }},
		{"nobody asks", func(n *nodeState) {
			for k := range n.Works {
				n.Works[k].Asked = false
			}
		}},
		{"answers ahead of what goes on", func(n *nodeState) { n.Works[goesAt].Outs = repeated(answer("e(7)"), 3) }},
		{"answers ahead of what waits", func(n *nodeState) { n.Works[waitsAt].Outs = repeated(answer("h(X0)"), 3) }},
		{"other answers ahead of the last one", func(n *nodeState) {
			n.Works[answersAt].Outs = []outcome{answer("e(b)"), answer("X0"), answer("e(b)")}
		}},
		{"answers ahead of an end", func(n *nodeState) {
			n.Works[noneAt].Outs = []outcome{answer("zz"), answer("zz"), {Status: impl.SlvNone}}
		}},
		{"as many outcomes as there can be", func(n *nodeState) { n.Works[goesAt].Outs = repeated(answer("e(a)"), impl.SlvFuel) }},
		{"as many answers as there can be", func(n *nodeState) { n.Works[answersAt].Outs = repeated(answer("e(b)"), impl.SlvFuel) }},
		{"an end as last of all", func(n *nodeState) {
			n.Works[wrongAt].Outs = append(repeated(answer("bad(1)"), impl.SlvFuel-1), outcome{Status: impl.SlvWrong})
		}},
		{"one question with other arguments", func(n *nodeState) { n.Works = append(n.Works, workBehind("e(c)", 0), workBehind("e", 0)) }},
	}
	for _, want := range []int{1, 2, impl.SlvFuel - 1, impl.SlvFuel} {
		for k := goesAt; k <= againAt; k++ {
			all = append(all, nodeTurn{"another number wanted", func(n *nodeState) { n.Works[k].Want = want }})
		}
	}
	return all
}

// fullOf is node 0 of richNodeProg with so many works.
func fullOf(works int) nodeState {
	n := nodeState{Up: true}
	for k := range works {
		n.Works = append(n.Works, work{Want: 1, Asked: true, Slv: impl.TrlNew(read("h(" + strconv.Itoa(k) + ")"))})
	}
	return n
}

// harmfulNode turns richNode to what is not ok, each for another cause.
func harmfulNode() []nodeTurn {
	all := []nodeTurn{
		{"down, with works", func(n *nodeState) { n.Up = false }},
		{"down, with one work", func(n *nodeState) { n.Up, n.Works = false, n.Works[:1] }},
		{"down, with a work that is nothing", func(n *nodeState) { n.Up, n.Works = false, make([]work, 1) }},
		{"one work more than there can be", func(n *nodeState) { *n = fullOf(impl.NodMost + 1) }},
		{"very many works", func(n *nodeState) { n.Works = make([]work, 100000) }},
		{"a work that is nothing", func(n *nodeState) { n.Works = append(n.Works, work{}) }},
		{"two works of one question", func(n *nodeState) { n.Works = append(n.Works, n.Works[waitsAt]) }},
		{"two works of one question that stand differently", func(n *nodeState) { n.Works[againAt] = workBehind("e(X0)", 0) }},
		{"a work of another node's question", func(n *nodeState) { n.Works[goesAt].Slv = impl.TrlNew(read("k(X0)")) }},
		{"an ended work of another node's question", func(n *nodeState) { n.Works[noneAt].Slv.Top = read("w(a)") }},
		{"a question that is none", func(n *nodeState) { n.Works[noneAt].Slv.Top = read("zz(X1)") }},
		{"no question", func(n *nodeState) { n.Works[noneAt].Slv.Top = nil }},
		{"solving that is nothing", func(n *nodeState) { n.Works[goesAt].Slv = trailState{} }},
		{"solving that is not ok", func(n *nodeState) { n.Works[goesAt].Slv.Vars = 0 }},
		{"an outcome behind an end", func(n *nodeState) {
			n.Works[noneAt].Outs = []outcome{{Status: impl.SlvNone}, {Status: impl.SlvNone}}
		}},
		{"an answer behind an end", func(n *nodeState) {
			n.Works[answersAt].Outs = []outcome{{Status: impl.SlvNone}, answer("e(b)")}
		}},
		{"an end that is not the last one, behind which it ends so", func(n *nodeState) {
			n.Works[wrongAt].Outs = []outcome{{Status: impl.SlvBig}, {Status: impl.SlvWrong}}
		}},
		{"an outcome that is none of the question", func(n *nodeState) { n.Works[goesAt].Outs = []outcome{answer("h(a)")} }},
		{"an answer numbered otherwise", func(n *nodeState) { n.Works[goesAt].Outs = []outcome{answer("e(X1)")} }},
		{"an outcome that is nothing", func(n *nodeState) { n.Works[goesAt].Outs = make([]outcome, 1) }},
		{"an outcome that goes on", func(n *nodeState) { n.Works[goesAt].Outs = []outcome{{Status: impl.SlvGoes}} }},
		{"an outcome that waits", func(n *nodeState) { n.Works[waitsAt].Outs = []outcome{{Status: impl.SlvWaits}} }},
		{"a first outcome that is none of the question", func(n *nodeState) {
			n.Works[answersAt].Outs = []outcome{answer("e(a,b)"), answer("e(b)")}
		}},
		{"an end with a term", func(n *nodeState) { n.Works[noneAt].Outs[0].Term = read("zz") }},
		{"an answer that is not the last outcome", func(n *nodeState) { n.Works[answersAt].Outs = repeated(answer("e(X0)"), 1) }},
		{"an answer ahead of the last outcome", func(n *nodeState) { n.Works[answersAt].Outs = []outcome{answer("e(b)"), answer("e(X0)")} }},
		{"an answer without outcomes", func(n *nodeState) { n.Works[answersAt].Outs = nil }},
		{"one outcome more than there can be", func(n *nodeState) { n.Works[goesAt].Outs = repeated(answer("e(a)"), impl.SlvFuel+1) }},
		{"one answer more than there can be", func(n *nodeState) { n.Works[answersAt].Outs = repeated(answer("e(b)"), impl.SlvFuel+1) }},
		{"an end behind as many answers as there can be", func(n *nodeState) {
			n.Works[wrongAt].Outs = append(repeated(answer("bad(1)"), impl.SlvFuel), outcome{Status: impl.SlvWrong})
		}},
	}
	for _, end := range endOuts() {
		for _, k := range []int{goesAt, waitsAt, answersAt} {
			all = append(all, nodeTurn{"an end as last of what has not ended", func(n *nodeState) { n.Works[k].Outs = append(n.Works[k].Outs, end) }})
		}
		for _, k := range []int{noneAt, bigAt, wrongAt, againAt} {
			if richNode().Works[k].Slv.Status != end.Status {
				all = append(all, nodeTurn{"another end", func(n *nodeState) { n.Works[k].Outs[len(n.Works[k].Outs)-1] = end }},
					nodeTurn{"ended in another way", func(n *nodeState) { n.Works[k].Slv.Status = end.Status }})
			}
		}
	}
	for _, k := range []int{noneAt, bigAt, wrongAt, againAt} {
		all = append(all, nodeTurn{"ended without outcomes", func(n *nodeState) { n.Works[k].Outs = nil }},
			nodeTurn{"ended with an answer as last", func(n *nodeState) {
				n.Works[k].Outs[len(n.Works[k].Outs)-1] = outcome{Status: impl.SlvAnswer, Term: n.Works[k].Slv.Top}
			}})
	}
	for _, want := range []int{math.MinInt, -impl.SlvFuel, -1, 0, impl.SlvFuel + 1, math.MaxInt} {
		for k := goesAt; k <= againAt; k++ {
			all = append(all, nodeTurn{"a number wanted that is none", func(n *nodeState) { n.Works[k].Want = want }})
		}
	}
	return all
}

// bytesForAll are bytes of each kind for node 0 of richNodeProg.
func bytesForAll() [][]byte {
	all := noMessages(steady())
	for _, m := range []message{askOf(3, "e(X0)", 1), askOf(0, "k(X0)", 1), askOf(1, "new(X0)", 2), tellOf("k(X0)", 1, answer("k(1)")), tellOf("k(X0)", 2, outcome{Status: impl.SlvNone}), askOf(2, "e(b)", 1)} {
		all = append(all, plainMsgBytes(m))
	}
	return all
}

// brief writes the front of what may be very long.
func brief(v any) string {
	text := fmt.Sprint(v)
	return text[:min(len(text), 500)]
}

// checkNodeNotOk: of a node that is not ok there is nothing, whatever it hears.
func checkNodeNotOk(t *testing.T, what string, p prog, node int, n nodeState) {
	t.Helper()
	if plainNodOk(p, node, n) || impl.NodOk(p, node, n) {
		t.Errorf("%s %s: ok: %s", what, atNode(node), brief(n))
	}
	if then, all := impl.NodRun(p, node, n); !isNothing(then) || len(all) > 0 {
		t.Errorf("%s %s: it goes on to %s, %v", what, atNode(node), brief(then), all)
	}
	for _, b := range bytesForAll() {
		if then, said := impl.NodHear(p, node, n, b); !isNothing(then) || !isNothing(said) {
			t.Errorf("%s %s: behind % x it is %s, and says %v", what, atNode(node), b, brief(then), said)
		}
	}
}

func TestNodeOkByHand(t *testing.T) {
	t.Parallel()
	p := richNodeProg()
	for _, one := range harmlessNode() {
		n := richNode()
		one.turn(&n)
		if !plainNodOk(p, 0, n) || !impl.NodOk(p, 0, n) {
			t.Errorf("%s: not ok: %s", one.what, brief(n))
		}
	}
	for _, one := range harmfulNode() {
		n := richNode()
		one.turn(&n)
		checkNodeNotOk(t, one.what, p, 0, n)
	}
}

// TestNodeNumbers: a node is one of 0..PrgNodes-1; -1, where one machine does all, is none.
func TestNodeNumbers(t *testing.T) {
	p := richNodeProg()
	for _, node := range []int{math.MinInt, -2, -1, impl.PrgNodes, impl.PrgNodes + 1, math.MaxInt} {
		for _, n := range []nodeState{{}, impl.NodNew(), richNode()} {
			checkNodeNotOk(t, "a node that is none", p, node, n)
			checkNodeNotOk(t, "a node that is none", impl.PrgAlone(p), node, n)
		}
	}
	for _, node := range farNodes() {
		for _, n := range []nodeState{{}, impl.NodNew()} {
			if !impl.NodOk(p, node, n) {
				t.Errorf("%s: not ok: %v", atNode(node), n)
			}
		}
		if node > 0 {
			checkNodeNotOk(t, "another node's works", p, node, richNode())
		}
	}
	ended := richNode()
	ended.Works = []work{ended.Works[noneAt]}
	if !impl.NodOk(p, 0, ended) {
		t.Errorf("not ok: %v", ended)
	}
	checkNodeNotOk(t, "an ended work", p, 1, ended)
}

// TestNodeOfAWrongProgram: of it there is nothing.
func TestNodeOfAWrongProgram(t *testing.T) {
	for _, p := range wrongProgs() {
		for _, n := range []nodeState{{}, impl.NodNew(), {Up: true, Works: []work{{Want: 1, Asked: true, Slv: impl.TrlNew(read("a"))}}}} {
			if impl.NodOk(p, 0, n) {
				t.Errorf("ok by %s: %v", brief(p), n)
			}
			then, all := impl.NodRun(p, 0, n)
			heard, said := impl.NodHear(p, 0, n, plainMsgBytes(askOf(3, "a", 1)))
			if !isNothing(then) || len(all) > 0 || !isNothing(heard) || !isNothing(said) {
				t.Errorf("by %s: %v, %v, %v, %v", brief(p), then, all, heard, said)
			}
		}
	}
	// Works that are far by another program are not ok by one of one node, nor the other way round.
	checkNodeNotOk(t, "by a program at one node", impl.PrgAlone(richNodeProg()), 0, richNode())
	checkNodeNotOk(t, "by a program without clauses", prog{}, 0, richNode())
}

// TestNodeThatComesUpKnowsNothing: promise 46.
func TestNodeThatComesUpKnowsNothing(t *testing.T) {
	n := impl.NodNew()
	if !n.Up || len(n.Works) > 0 {
		t.Fatalf("it is %v", n)
	}
	progs := append(somePrograms()[:300], prog{}, richNodeProg())
	for _, p := range progs {
		for _, node := range farNodes() {
			if !impl.NodOk(p, node, n) {
				t.Errorf("%s of %v it is not ok", atNode(node), p)
			}
			if then, all := impl.NodRun(p, node, n); !sameValue(then, n) || len(all) > 0 {
				t.Errorf("%s of %v it goes on to %v, %v", atNode(node), p, then, all)
			}
		}
	}
	n.Works = append(n.Works, richNode().Works...)
	if again := impl.NodNew(); len(again.Works) > 0 || !again.Up {
		t.Errorf("another one is %v", again)
	}
}

// TestTurnedNodesAreAsPlainlyTold holds nodes with something turned in them against the plain reading.
func TestTurnedNodesAreAsPlainlyTold(t *testing.T) {
	t.Parallel()
	r := steady()
	ok, wrong := 0, 0
	all := append([]scene{{richNodeProg(), 0, richNode()}}, scenes()...)
	for k := range 5000 {
		s := all[k%len(all)]
		if k%3 == 0 {
			s = all[0]
		}
		s.n = noSpareOf(s.n)
		for range 1 + r.IntN(4)/3 {
			turnNode(r, &s.n)
		}
		if plainNodOk(s.p, s.node, s.n) {
			ok++
		} else {
			wrong++
		}
		checkNodePlainly(t, s, plainMsgBytes(pick(r, asksFor(r, s))))
		if tells := tellsFor(r, s); len(tells) > 0 {
			checkNodePlainly(t, s, plainMsgBytes(pick(r, tells)))
		}
	}
	if ok < 1000 || wrong < 2000 {
		t.Errorf("only %d are ok, %d are not", ok, wrong)
	}
}

// turnNode turns something of a node, most often of one of its works.
func turnNode(r *rand.Rand, n *nodeState) {
	if r.IntN(20) == 0 {
		n.Up = !n.Up
		return
	}
	turnSome(r, reflect.ValueOf(&n.Works).Elem())
}

func pick[T any](r *rand.Rand, all []T) T { return all[r.IntN(len(all))] }

// checkNodePlainly holds all that is done with a node against the plain reading.
func checkNodePlainly(t *testing.T, s scene, b []byte) {
	t.Helper()
	if got, want := impl.NodOk(s.p, s.node, s.n), plainNodOk(s.p, s.node, s.n); got != want {
		t.Fatalf("%t, want %t, of %v: %v", got, want, s, s.n)
	}
	checkHearPlainly(t, s, b)
	checkRunPlainly(t, s)
}

func checkHearPlainly(t *testing.T, s scene, b []byte) {
	t.Helper()
	got, said := impl.NodHear(s.p, s.node, s.n, b)
	want, say := plainHear(s.p, s.node, s.n, b)
	if !sameValue(got, want) || !sameValue(said, say) {
		m, _ := plainMsgOf(b)
		t.Fatalf("%v: behind %v it is\n%v, want\n%v; it says %v, want %v", s, m, scene{s.p, s.node, got}, scene{s.p, s.node, want}, said, say)
	}
}

func checkRunPlainly(t *testing.T, s scene) {
	t.Helper()
	got, all := impl.NodRun(s.p, s.node, s.n)
	want, asks := plainNodRun(s.p, s.node, s.n)
	if !sameValue(got, want) || !sameValue(all, asks) {
		t.Fatalf("%v: it goes on to\n%v, want\n%v; it asks %v, want %v", s, scene{s.p, s.node, got}, scene{s.p, s.node, want}, all, asks)
	}
}
