package tests

import (
	"bytes"
	"math/rand/v2"
	"slices"
	"strconv"
	"sync"
	"testing"

	"loop.example/catechist/impl"
)

// scene is a node of a program.
type scene struct {
	p    prog
	node int
	n    nodeState
}

func (s scene) String() string {
	text := atNode(s.node) + " of "
	for _, line := range plainLines(s.p) {
		text += line + "; "
	}
	for _, w := range s.n.Works {
		text += "| " + impl.TrmText(w.Slv.Top) + " status " + strconv.Itoa(w.Slv.Status) + " want " + strconv.Itoa(w.Want) + " asked " + strconv.FormatBool(w.Asked) + ": " + showOuts(w.Outs)
	}
	return text
}

// worksOf is how a question is worked at at its node behind each of so many steps, with all that came of it so far.
func worksOf(q posed, node int, steps int) []work {
	var all []work
	var outs []outcome
	for k, s := range trailsOf(q, node, steps) {
		if s.Status != impl.SlvGoes && s.Status != impl.SlvWaits {
			outs = append(outs, outcome{Status: s.Status, Term: s.Out})
		}
		all = append(all, work{Outs: slices.Clone(outs), Want: max(1, len(outs)+k%4-1), Asked: k%3 > 0, Slv: s})
	}
	return all
}

// questionsAt are those of some questions that are called at a node, each once.
func questionsAt(p prog, node int, tops [][]cell) [][]cell {
	var all [][]cell
	for _, top := range tops {
		if plainNode(p, top) == node && !slices.ContainsFunc(all, func(o []cell) bool { return slices.Equal(o, top) }) {
			all = append(all, top)
		}
	}
	return all
}

// nodeAt is a node that works at so many of some questions, each behind any number of steps.
func nodeAt(r *rand.Rand, p prog, node int, tops [][]cell, most int) nodeState {
	tops = questionsAt(p, node, tops)
	r.Shuffle(len(tops), func(i, j int) { tops[i], tops[j] = tops[j], tops[i] })
	n := nodeState{Up: true}
	for _, top := range tops[:min(len(tops), most)] {
		all := worksOf(posed{p, top}, node, 8+r.IntN(25))
		n.Works = append(n.Works, all[len(all)-1-r.IntN((len(all)+1)/2)])
	}
	return n
}

// manyQuestions are questions of the heads of a program's clauses, with any small arguments.
func manyQuestions(r *rand.Rand, p prog, n int) [][]cell {
	var all [][]cell
	for range n {
		head := name("none", 1)
		if k := r.IntN(len(p.Clauses) + 1); k < len(p.Clauses) {
			head = p.Clauses[k].Head[0]
		}
		all = append(all, plainCanon(smallCall(r, head, 3)))
	}
	return all
}

// scenesOf are nodes of a program with no works, one, some, and as many as there can be.
func scenesOf(r *rand.Rand, p prog, tops [][]cell) []scene {
	var all []scene
	tops = append(slices.Clone(tops), manyQuestions(r, p, 60)...)
	for _, node := range farNodes() {
		for _, most := range []int{0, 1, 2, 2 + r.IntN(6), impl.NodMost} {
			all = append(all, scene{p, node, nodeAt(r, p, node, tops, most)})
		}
	}
	return all
}

// scenes are nodes of programs by hand, and of made ones; whoever looks at them leaves them as they are.
var scenes = sync.OnceValue(func() []scene { return someScenes(90) })

// someScenes are nodes of programs by hand, and of so many made ones.
func someScenes(made int) []scene {
	r := rand.New(rand.NewPCG(9, 4))
	var all []scene
	hand := handFar()
	for k := 0; k < len(hand); {
		var tops [][]cell
		p := hand[k].p
		for ; k < len(hand) && sameValue(hand[k].p, p); k++ {
			tops = append(tops, hand[k].top)
		}
		all = append(all, scenesOf(r, p, tops)...)
	}
	for range made {
		p := spread(r, smallProg(r, impl.PrgClauses, true))
		all = append(all, scenesOf(r, p, [][]cell{smallQuestion(r)})...)
	}
	return append(all, fullScene())
}

// countProg has a question for each number, and names at other nodes.
func countProg() prog {
	return program("at 1 k 1", "at 2 j 2", "k(1)", "k(2)", "c(X0) if k(X0)", "c(X0) if j(X0,X1) and k(X1)", "j(X0,X0)", "d(X0,X1) if X0 < X1", "d(X0,X0)", "b(0)", "b(1)", "b(X0) if X0 < 2 and b(X0)")
}

// fullScene is a node with as many works as there can be, which stand differently.
func fullScene() scene {
	p := countProg()
	n := nodeState{Up: true}
	for k := range impl.NodMost {
		text := []string{"c(" + strconv.Itoa(k) + ")", "d(" + strconv.Itoa(k) + ",20)", "b(" + strconv.Itoa(k) + ")"}[k%3]
		all := worksOf(posed{p, read(text)}, 0, 12)
		n.Works = append(n.Works, all[k%len(all)])
	}
	return scene{p, 0, n}
}

// askedNumbers are outcomes to ask of a work for: those that are there, the next one, and such as are far behind.
func askedNumbers(w work) []int {
	n := len(w.Outs)
	all := []int{1, n - 1, n, n + 1, n + 2, w.Want, w.Want + 1, impl.SlvFuel}
	return slices.DeleteFunc(all, func(k int) bool { return k < 1 || k > impl.SlvFuel })
}

// few are so many of all, any of them; all of them are in another order then.
func few[T any](r *rand.Rand, all []T, most int) []T {
	r.Shuffle(len(all), func(i, j int) { all[i], all[j] = all[j], all[i] })
	return all[:min(len(all), most)]
}

// asksFor are some messages that ask a node, for what it works at and for what it does not.
func asksFor(r *rand.Rand, s scene) []message {
	var all []message
	for _, w := range s.n.Works {
		for _, n := range askedNumbers(w) {
			all = append(all, message{Kind: impl.MsgAsk, From: r.IntN(impl.MsgClient + 1), Top: w.Slv.Top, N: n})
		}
	}
	all = few(r, all, 9)
	for k, top := range manyQuestions(r, s.p, 5) {
		all = append(all, message{Kind: impl.MsgAsk, From: k % (impl.MsgClient + 1), Top: top, N: []int{1, 2, impl.SlvFuel}[k%3]})
	}
	return all
}

// tellsFor are some messages that tell a node what it waits for, and what it does not.
func tellsFor(r *rand.Rand, s scene) []message {
	var all []message
	tell := func(top []cell, n int, o outcome) {
		if m := (message{Kind: impl.MsgTell, Top: top, N: n, Out: o}); plainMsgOk(m) {
			all = append(all, m)
		}
	}
	for _, w := range s.n.Works {
		top, far := plainWants(w.Slv)
		if far == 0 && r.IntN(6) > 0 {
			continue
		}
		if far == 0 {
			top, far = w.Slv.Top, len(w.Outs)+1
		}
		o, _ := toldBy(s.p, top, far)
		for _, n := range []int{far, far - 1, far + 1, 1, impl.SlvFuel} {
			tell(top, n, o)
			for _, end := range endOuts() {
				tell(top, n, end)
			}
		}
		for _, o := range answersTo(top) {
			tell(top, far, o)
		}
		tell(w.Slv.Top, len(w.Outs), lastOut(w.Outs))
	}
	for _, top := range manyQuestions(r, s.p, 4) {
		tell(top, 1, outcome{Status: impl.SlvNone})
	}
	return few(r, all, 12)
}

// noMessages are bytes that are none.
func noMessages(r *rand.Rand) [][]byte {
	ask := plainMsgBytes(askOf(impl.MsgClient, "c(1)", 1))
	bent := slices.Clone(ask)
	bent[r.IntN(len(bent))] ^= byte(1 + r.IntN(255))
	return [][]byte{nil, {0}, make([]byte, 4), ask[1:], ask[:len(ask)-1], append(slices.Clone(ask), 0), bent, inFrame(nil), inFrame(plainBody(askOf(impl.MsgClient+1, "c(1)", 1))), inFrame(plainBody(askOf(0, "c(1)", impl.SlvFuel+1)))}
}

// letter is bytes on their way to a node, or to who asks from outside.
type letter = sent

// small is a world as small as a test needs it: nodes, and what is on its way, which whoever tests moves.
type small struct {
	q     posed
	nodes [impl.PrgNodes]nodeState
	mail  []letter
	outs  []outcome
}

func smallOf(q posed) *small {
	w := &small{q: q}
	for k := range w.nodes {
		w.nodes[k] = impl.NodNew()
	}
	return w
}

func (w *small) send(all ...letter) {
	for _, one := range all {
		if len(one.Bytes) > 0 {
			w.mail = append(w.mail, one)
		}
	}
}

// ask asks from outside for the next outcome.
func (w *small) ask() {
	if ends(w.outs) {
		return
	}
	m := message{Kind: impl.MsgAsk, From: impl.MsgClient, Top: w.q.top, N: len(w.outs) + 1}
	w.send(letter{To: impl.PrgNode(w.q.p, w.q.top), Bytes: impl.MsgBytes(m)})
}

func (w *small) run(node int) {
	n, all := impl.NodRun(w.q.p, node, w.nodes[node])
	w.nodes[node] = n
	w.send(all...)
}

// hear brings the message at a place to whom it goes.
func (w *small) hear(k int) {
	one := w.mail[k]
	w.mail = slices.Delete(slices.Clone(w.mail), k, k+1)
	if one.To < impl.PrgNodes {
		n, said := impl.NodHear(w.q.p, one.To, w.nodes[one.To], one.Bytes)
		w.nodes[one.To] = n
		w.send(said)
		return
	}
	if m, ok := impl.MsgRead(one.Bytes); ok && m.Kind == impl.MsgTell && m.N == len(w.outs)+1 && !ends(w.outs) {
		w.outs = append(w.outs, m.Out)
	}
}

// anything lets one thing happen: somebody asks, hears, or goes on, bytes come once more, late, bent or not at all, and nodes fall.
func (w *small) anything(r *rand.Rand) {
	k := 0
	if len(w.mail) > 0 {
		k = r.IntN(len(w.mail))
	}
	switch c := r.IntN(40); {
	case c < 6:
		w.ask()
	case c < 18:
		w.run(r.IntN(impl.PrgNodes))
	case c == 18:
		w.nodes[r.IntN(impl.PrgNodes)] = impl.NodNew()
	case c == 19:
		w.nodes[r.IntN(impl.PrgNodes)] = nodeState{}
	case len(w.mail) == 0:
	case c < 22:
		w.mail = append(w.mail, w.mail[k])
	case c == 22:
		w.mail = slices.Delete(slices.Clone(w.mail), k, k+1)
	case c == 23:
		bent := slices.Clone(w.mail[k].Bytes)
		bent[r.IntN(len(bent))] ^= byte(1 + r.IntN(255))
		w.mail[k].Bytes = bent
	default:
		w.hear(k)
	}
	for k, n := range w.nodes {
		if !n.Up && r.IntN(6) == 0 {
			w.nodes[k] = impl.NodNew()
		}
	}
}

// met are bytes, and the node that they come to.
type met struct {
	scene
	bytes []byte
}

// walked is what nodes meet in a small world in which anything happens.
func walked(r *rand.Rand, q posed, steps int) []met {
	w := smallOf(q)
	var all []met
	for range steps {
		w.anything(r)
		node := r.IntN(impl.PrgNodes)
		one := met{scene{q.p, node, w.nodes[node]}, nil}
		if k := slices.IndexFunc(w.mail, func(l letter) bool { return l.To == node }); k >= 0 {
			one.bytes = bytes.Clone(w.mail[k].Bytes)
		}
		all = append(all, one)
	}
	return all
}

// TestScenesSeeWhatTheChapterSpeaksOf: works that stand in each way, nodes of all sizes, and messages of both kinds.
func TestScenesSeeWhatTheChapterSpeaksOf(t *testing.T) {
	t.Parallel()
	r := steady()
	stands, sizes, at, asked, later := map[int]int{}, map[int]int{}, map[int]int{}, 0, 0
	for _, s := range scenes() {
		if !plainNodOk(s.p, s.node, s.n) {
			t.Fatalf("not ok: %v", s)
		}
		sizes[len(s.n.Works)]++
		at[s.node] += len(s.n.Works)
		for _, w := range s.n.Works {
			stands[w.Slv.Status]++
			if w.Asked {
				asked++
			}
			later += min(len(w.Outs)/2, 1)
		}
		if len(tellsFor(r, s)) == 0 || len(asksFor(r, s)) == 0 {
			t.Errorf("no messages: %v", s)
		}
	}
	for status, least := range map[int]int{impl.SlvGoes: 300, impl.SlvWaits: 200, impl.SlvAnswer: 200, impl.SlvNone: 1000, impl.SlvBig: 3, impl.SlvWrong: 30} {
		if stands[status] < least {
			t.Errorf("only %d stand as %d", stands[status], status)
		}
	}
	for node, n := range at {
		if n < 500 {
			t.Errorf("only %d are %s", n, atNode(node))
		}
	}
	if sizes[0] < 80 || sizes[1] < 80 || sizes[impl.NodMost] < 1 || len(sizes) < 15 || asked < 1000 || later < 200 {
		t.Errorf("sizes are %v, %d are asked for, %d have several outcomes", sizes, asked, later)
	}
}
