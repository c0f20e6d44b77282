package tests

import (
	"math/rand/v2"
	"slices"
	"strconv"
	"strings"
	"testing"

	"loop.example/catechist/impl"
)

func showWorld(w world) string {
	text := posed{w.Prog, w.Top}.String() + "has " + showOuts(w.Outs)
	for k, n := range w.Nodes {
		text += "\n" + scene{prog{}, k, n}.String() + " up " + strconv.FormatBool(n.Up)
	}
	for _, m := range w.Net {
		text += "\nto " + strconv.Itoa(m.To) + " bent " + strconv.FormatBool(m.Bent) + ": " + showMail(m.Bytes)
	}
	return text
}

func showMail(b []byte) string {
	m, ok := plainMsgOf(b)
	switch {
	case !ok:
		return strconv.Itoa(len(b)) + " bytes that are no message"
	case m.Kind == impl.MsgAsk:
		return "ask from " + strconv.Itoa(m.From) + " for " + strconv.Itoa(m.N) + " of " + impl.TrmText(m.Top)
	}
	return "tell " + strconv.Itoa(m.N) + " of " + impl.TrmText(m.Top) + ": " + showOuts([]outcome{m.Out})
}

// questionsOf are a program, and questions of it.
func questionsOf(p prog, questions ...string) []posed {
	var all []posed
	for _, q := range questions {
		all = append(all, posed{p, plainCanon(read(q))})
	}
	return all
}

func factsProg() prog {
	return program("at 1 f 1", "at 2 f 2", "f(a)", "f(b)", "f(c)", "f(X0,X0)", "f(a,b)", "g(X0)", "g(1)")
}

// factsPosed are questions at each node of a program of facts alone, with none, one and several answers.
func factsPosed() []posed {
	return questionsOf(factsProg(), "f(X0)", "f(d)", "f(b)", "f(X0,X1)", "f(X0,b)", "f(b,a)", "g(X0)", "g(7)", "g(1)", "no(X0)", "f(g(X0))")
}

// handWorld are programs and questions by hand, with numbers, with nodes that ask each other to and fro, and such as never come to an end.
func handWorld() []posed {
	lists := program("at 1 len 2", "at 2 n 2", "len(nil,0)", "len(c(X0,X1),X3) if len(X1,X2) and X2 + 1 = X3", "n(X0,X0)", "n(X0,X2) if X0 < 3 and X0 + 1 = X1 and n(X1,X2)", "d(X0,X1) if len(X0,X2) and n(X2,X1)")
	fro := program("at 1 odd 1", "at 2 go 1", "even(0)", "even(X0) if 0 < X0 and X0 + -1 = X1 and odd(X1)", "odd(X0) if 0 < X0 and X0 + -1 = X1 and even(X1)", "go(X0) if even(X0) and !", "go(X0) if odd(X0)")
	ring := program("at 1 a 1", "at 2 b 1", "a(1)", "a(X0) if b(X0)", "b(X0) if c(X0)", "c(X0) if a(X0)")
	all := questionsOf(lists, "len(c(a,c(X0,nil)),X1)", "n(0,X0)", "n(9,X0)", "n(a,X0)", "d(c(a,nil),X0)", "d(nil,3)", "d(X0,X1)")
	all = append(all, questionsOf(fro, "even(6)", "even(5)", "odd(3)", "go(2)", "go(3)", "go(X0)", "even(X0)")...)
	all = append(all, questionsOf(ring, "a(X0)", "b(X0)", "c(1)", "c(2)")...)
	return append(all, factsPosed()...)
}

// alone is a question of a program all of whose calls are done at node 0.
func alone(q posed) posed { return posed{impl.PrgAlone(q.p), q.top} }

// worldPosed are programs and questions by hand, some of them alone at one node, and so many made ones of which one machine soon tells something.
func worldPosed(made int) []posed {
	r := rand.New(rand.NewPCG(23, 8))
	all := append(handFar(), handWorld()...)
	for k, q := range slices.Clone(all) {
		if k%5 == 0 {
			all = append(all, alone(q))
		}
	}
	for made > 0 {
		q := posed{spread(r, smallProg(r, impl.PrgClauses, true)), smallQuestion(r)}
		// Most made questions have no answer; of those just some are of use.
		if outs, _ := impl.SlvOuts(q.p, q.top, 2, 60); len(answersOf(outs)) > 0 || r.IntN(20) == 0 {
			all = append(all, q)
			made--
		}
	}
	return all
}

// anyNode is a node, now and then one that is none.
func anyNode(r *rand.Rand) int {
	if r.IntN(40) == 0 {
		return []int{-1, impl.PrgNodes, impl.MsgClient + 1}[r.IntN(3)]
	}
	return r.IntN(impl.PrgNodes)
}

// anyMessage is the first message, another one, or one that is not there.
func anyMessage(r *rand.Rand, w world) int {
	switch c := r.IntN(40); {
	case c == 0:
		return []int{-1, len(w.Net), impl.NetMax}[r.IntN(3)]
	case c < 16 && len(w.Net) > 0:
		return r.IntN(len(w.Net))
	}
	return 0
}

// bendOf bends a message somewhere, now and then not at all.
func bendOf(r *rand.Rand, w world, at int) event {
	e := event{Kind: impl.EvBend, At: at, Pos: r.IntN(8), V: 1 + r.IntN(255)}
	if at >= 0 && at < len(w.Net) && len(w.Net[at].Bytes) > 0 {
		e.Pos = r.IntN(len(w.Net[at].Bytes))
	}
	if r.IntN(20) == 0 {
		e.Pos = []int{-1, 2000}[r.IntN(2)]
	}
	if r.IntN(20) == 0 {
		e.V = []int{-1, 0, 256}[r.IntN(3)]
	}
	return e
}

// harm is a loss, a copy, a bend, or a fall.
func harm(r *rand.Rand, w world) event {
	switch c := r.IntN(8); {
	case c < 2:
		return event{Kind: impl.EvLose, At: anyMessage(r, w)}
	case c < 4:
		return event{Kind: impl.EvTwice, At: anyMessage(r, w)}
	case c < 6:
		return bendOf(r, w, anyMessage(r, w))
	}
	return event{Kind: impl.EvFall, At: anyNode(r)}
}

// rising is who is down coming up.
func rising(r *rand.Rand, w world) event {
	for k, n := range w.Nodes {
		if !n.Up && r.IntN(2) == 0 {
			return event{Kind: impl.EvRise, At: k}
		}
	}
	return event{Kind: impl.EvRise, At: anyNode(r)}
}

// anyEvent is something that happens: most often somebody asks, hears, or goes on; of a hundred things so many are harm.
func anyEvent(r *rand.Rand, w world, harms int) event {
	switch c := r.IntN(100); {
	case c < harms:
		return harm(r, w)
	case c < harms+6:
		return rising(r, w)
	case c < harms+7:
		return event{Kind: []int{-1, 0, 9, 77}[r.IntN(4)], At: r.IntN(3)}
	}
	switch c := r.IntN(10); {
	case c < 2:
		return event{Kind: impl.EvAsk}
	case c < 5:
		return event{Kind: impl.EvRun, At: anyNode(r)}
	}
	return event{Kind: impl.EvHear, At: anyMessage(r, w)}
}

// wild is a world from its beginning on behind each of so many things that happen, with what happened behind it.
func wild(r *rand.Rand, q posed, steps int, harms int, look func(w world, e event, then world)) world {
	w := impl.WldNew(q.p, q.top)
	for range steps {
		e := anyEvent(r, w, harms)
		then := impl.WldStep(w, e)
		look(w, e, then)
		w = then
	}
	return w
}

// wildWorlds are worlds in which anything happened, one or two of each question.
func wildWorlds(r *rand.Rand, all []posed, steps int) []world {
	var worlds []world
	for k, q := range all {
		worlds = append(worlds, wild(r, q, r.IntN(steps), 5+k%3*10, func(world, event, world) {}))
	}
	return worlds
}

// anyMail is bytes on their way: mostly a message to whom it is of use.
func anyMail(r *rand.Rand, w world) netMsg {
	if r.IntN(8) == 0 {
		return netMsg{To: r.IntN(impl.MsgClient + 1), Bent: r.IntN(2) == 0, Bytes: pick(r, append(noMessages(r), make([]byte, r.IntN(impl.MsgMax+5))))}
	}
	to := r.IntN(impl.MsgClient + 1)
	if to == impl.MsgClient {
		m := message{Kind: impl.MsgTell, Top: w.Top, N: max(1, len(w.Outs)+r.IntN(3)), Out: pick(r, append(answersTo(w.Top), endOuts()...))}
		return netMsg{To: to, Bent: r.IntN(4) == 0, Bytes: plainMsgBytes(m)}
	}
	s := scene{w.Prog, to, w.Nodes[to]}
	all := asksFor(r, s)
	if r.IntN(2) == 0 {
		all = append(tellsFor(r, s), all[0])
	}
	if r.IntN(10) == 0 {
		to = r.IntN(impl.MsgClient + 1)
	}
	return netMsg{To: to, Bent: r.IntN(4) == 0, Bytes: plainMsgBytes(pick(r, all))}
}

// anyWorld is a world of a question that is ok, however it came to be so: nodes that work at anything, outcomes that may be ones, any bytes on their way.
func anyWorld(r *rand.Rand, q posed) world {
	w := world{Prog: q.p, Top: q.top}
	tops := append(manyQuestions(r, q.p, 12), q.top)
	for k := range impl.PrgNodes {
		n := nodeAt(r, q.p, k, tops, r.IntN(5))
		if r.IntN(6) == 0 {
			n = nodeState{}
		}
		w.Nodes = append(w.Nodes, n)
	}
	w.Outs, _ = impl.SlvOuts(q.p, q.top, r.IntN(4), 300)
	if all := answersTo(q.top); r.IntN(3) == 0 && !ends(w.Outs) {
		w.Outs = append(w.Outs, pick(r, append(all, endOuts()...)))
	}
	for range r.IntN(7) {
		w.Net = append(w.Net, anyMail(r, w))
	}
	return w
}

// anyWorlds are worlds by hand and of made programs, so many of these, all of them ok.
func anyWorlds(made int) []world {
	r := rand.New(rand.NewPCG(31, 2))
	all := []world{richWorld(), fullNet(impl.NetMax - 1), fullNet(impl.NetMax)}
	for _, q := range worldPosed(made) {
		all = append(all, anyWorld(r, q))
	}
	return all
}

// The places of what is on its way in richWorld.
const (
	askAt    = iota // to node 0, for an outcome that it has
	newAt           // to node 0, for one that it does not have
	tellAt          // to node 0, which waits for it
	bentAt          // to node 0, bent
	downAt          // to node 2, which is down
	nextAt          // to who asks from outside: the next outcome
	lateAt          // to who asks from outside: one that came before
	otherAt         // to who asks from outside: of another question
	strayAt         // to who asks from outside: it asks
	emptyAt         // to node 1, no bytes
	richMail        // how many there are
)

// richWorld is a world with works that stand in each way, a node that is up, one that is down, an outcome, and messages of each sort.
func richWorld() world {
	w := world{Prog: richNodeProg(), Nodes: []nodeState{richNode(), {Up: true}, {}}, Top: read("h(X0)"), Outs: []outcome{answer("h(1)")}, Net: make([]netMsg, richMail)}
	put := func(k, to int, m message) { w.Net[k] = netMsg{To: to, Bytes: plainMsgBytes(m)} }
	put(askAt, 0, askOf(1, "bad(X0)", 1))
	put(newAt, 0, askOf(impl.MsgClient, "e(X0)", 1))
	put(tellAt, 0, tellOf("k(X0)", 1, answer("k(1)")))
	put(bentAt, 0, askOf(2, "e(b)", 1))
	w.Net[bentAt].Bytes[7] ^= 4
	w.Net[bentAt].Bent = true
	put(downAt, 2, askOf(0, "w(a)", 1))
	put(nextAt, impl.MsgClient, tellOf("h(X0)", 2, answer("h(2)")))
	put(lateAt, impl.MsgClient, tellOf("h(X0)", 1, answer("h(1)")))
	put(otherAt, impl.MsgClient, tellOf("e(X0)", 2, answer("e(b)")))
	put(strayAt, impl.MsgClient, askOf(0, "h(X0)", 2))
	w.Net[emptyAt].To = 1
	return w
}

// fullNet is richWorld with so many messages on their way; those behind its own are its own once more.
func fullNet(n int) world {
	w := richWorld()
	mail := w.Net
	for k := len(mail); k < n; k++ {
		w.Net = append(w.Net, netMsg{To: mail[k%richMail].To, Bent: mail[k%richMail].Bent, Bytes: slices.Clone(mail[k%richMail].Bytes)})
	}
	return w
}

// everyEvent is each thing that can happen in a world, and things that cannot.
func everyEvent(w world) []event {
	all := []event{{Kind: impl.EvAsk}, {Kind: impl.EvAsk, At: 9, Pos: -1, V: 256}}
	for _, kind := range []int{-1, 0, 9, 10} {
		all = append(all, event{Kind: kind}, event{Kind: kind, At: 1, Pos: 1, V: 1})
	}
	for at := -1; at <= impl.PrgNodes; at++ {
		for _, kind := range []int{impl.EvRun, impl.EvFall, impl.EvRise} {
			all = append(all, event{Kind: kind, At: at}, event{Kind: kind, At: at, Pos: 3, V: 3})
		}
	}
	for at := -1; at <= len(w.Net); at++ {
		for _, kind := range []int{impl.EvHear, impl.EvLose, impl.EvTwice} {
			all = append(all, event{Kind: kind, At: at})
		}
		last := 0
		if at >= 0 && at < len(w.Net) {
			last = len(w.Net[at].Bytes) - 1
		}
		for _, pos := range []int{-1, 0, 1, last, last + 1} {
			for _, v := range []int{-1, 0, 1, 255, 256} {
				all = append(all, event{Kind: impl.EvBend, At: at, Pos: pos, V: v})
			}
		}
	}
	return all
}

// someEvents are so many of all that can happen in a world.
func someEvents(r *rand.Rand, w world, most int) []event { return few(r, everyEvent(w), most) }

// TestWorldsAreMadeAsMeant: they are ok, by each reading, and see what the chapter speaks of.
func TestWorldsAreMadeAsMeant(t *testing.T) {
	t.Parallel()
	at, ended, works, down, heard := map[int]int{}, map[int]int{}, 0, 0, map[string]int{}
	for _, w := range anyWorlds(60) {
		if !plainWorldOk(w) || !impl.WldOk(w) {
			t.Fatalf("not ok: %s", showWorld(w))
		}
		at[plainNode(w.Prog, w.Top)]++
		ended[lastStatus(w.Outs)]++
		for _, n := range w.Nodes {
			works += len(n.Works)
			if !n.Up {
				down++
			}
		}
		for _, m := range w.Net {
			heard[strings.SplitN(showMail(m.Bytes), " ", 2)[0]+" "+strconv.Itoa(m.To/impl.MsgClient)]++
		}
	}
	for node := range impl.PrgNodes {
		if at[node] < 25 {
			t.Errorf("only %d questions are at node %d", at[node], node)
		}
	}
	for status, least := range map[int]int{0: 20, impl.SlvAnswer: 40, impl.SlvNone: 10, impl.SlvBig: 1, impl.SlvWrong: 2} {
		if ended[status] < least {
			t.Errorf("only %d have last a %d", ended[status], status)
		}
	}
	if works < 300 || down < 40 || heard["ask 0"] < 100 || heard["tell 0"] < 80 || heard["tell 1"] < 80 {
		t.Errorf("only %d works, %d are down, on their way are %v", works, down, heard)
	}
}
