package tests

import (
	"math"
	"reflect"
	"slices"
	"testing"

	"loop.example/catechist/impl"
)

type worldTurn struct {
	what string
	turn func(*world)
}

func mailOf(to, size int) netMsg { return netMsg{To: to, Bytes: make([]byte, size)} }

// mostBytes is how many bytes a message on its way has at most.
const mostBytes = impl.MsgMax + 4

// harmlessWorld turns richWorld to what is ok as well.
func harmlessWorld() []worldTurn {
	all := []worldTurn{
		{"as it is", func(w *world) {}},
		{"nothing on its way", func(w *world) { w.Net = nil }},
		{"an empty list on its way", func(w *world) { w.Net = []netMsg{} }},
		{"one less than as many as there can be on their way", func(w *world) { *w = fullNet(impl.NetMax - 1) }},
		{"as many as there can be on their way", func(w *world) { *w = fullNet(impl.NetMax) }},
		{"no outcomes", func(w *world) { w.Outs = nil }},
		{"other answers", func(w *world) { w.Outs = []outcome{answer("h(X0)"), answer("h(7)"), answer("X0")} }},
		{"as many answers as there can be", func(w *world) { w.Outs = repeated(answer("h(1)"), impl.SlvFuel) }},
		{"one answer less", func(w *world) { w.Outs = repeated(answer("h(1)"), impl.SlvFuel-1) }},
		{"an end as last of as many as there can be", func(w *world) {
			w.Outs = append(repeated(answer("h(1)"), impl.SlvFuel-1), outcome{Status: impl.SlvBig})
		}},
		{"all down", func(w *world) { clear(w.Nodes) }},
		{"all up", func(w *world) { w.Nodes = []nodeState{impl.NodNew(), impl.NodNew(), impl.NodNew()} }},
		{"another node's question", func(w *world) { w.Top, w.Outs = read("k(X0)"), []outcome{answer("k(7)")} }},
		{"a question of no clause", func(w *world) { w.Top, w.Outs = read("none(X0,a,X1)"), nil }},
		{"nothing is bent", func(w *world) { w.Net[bentAt].Bent = false }},
	}
	for _, end := range endOuts() {
		all = append(all, worldTurn{"an end alone", func(w *world) { w.Outs = []outcome{end} }}, worldTurn{"an end behind an answer", func(w *world) { w.Outs = append(w.Outs, end) }})
	}
	for to := 0; to <= impl.MsgClient; to++ {
		for _, size := range []int{0, 1, mostBytes - 1, mostBytes} {
			all = append(all, worldTurn{"bytes to all", func(w *world) { w.Net[newAt] = mailOf(to, size) }})
		}
		all = append(all, worldTurn{"to another one", func(w *world) { w.Net[tellAt].To = to }}, worldTurn{"bent, to another one", func(w *world) { w.Net[bentAt].To = to }})
	}
	for _, one := range harmlessNode() {
		all = append(all, worldTurn{"node 0: " + one.what, func(w *world) { one.turn(&w.Nodes[0]) }})
	}
	return all
}

// harmfulWorld turns richWorld to what is not ok, each for another cause.
func harmfulWorld() []worldTurn {
	all := []worldTurn{
		{"nothing", func(w *world) { *w = world{} }},
		{"no nodes", func(w *world) { w.Nodes = nil }},
		{"one node less", func(w *world) { w.Nodes = w.Nodes[:impl.PrgNodes-1] }},
		{"one node more", func(w *world) { w.Nodes = append(w.Nodes, impl.NodNew()) }},
		{"one node more, that is down", func(w *world) { w.Nodes = append(w.Nodes, nodeState{}) }},
		{"very many nodes", func(w *world) { w.Nodes = make([]nodeState, 100000) }},
		{"nodes in another order", func(w *world) { slices.Reverse(w.Nodes) }},
		{"one node's works at another one", func(w *world) { w.Nodes[1] = richNode() }},
		{"no question", func(w *world) { w.Top = nil }},
		{"a question that is a variable", func(w *world) { w.Top, w.Outs = read("X0"), nil }},
		{"a question that is a number", func(w *world) { w.Top, w.Outs = read("3"), nil }},
		{"a question numbered otherwise", func(w *world) { w.Top, w.Outs = read("h(X1)"), nil }},
		{"a question with a place more", func(w *world) { w.Top, w.Outs = append(w.Top, variable(0)), nil }},
		{"very many places", func(w *world) { w.Top, w.Outs = make([]cell, 100000), nil }},
		{"another question's outcome", func(w *world) { w.Outs = []outcome{answer("e(a)")} }},
		{"another question than outcomes are of", func(w *world) { w.Top = read("h(2)") }},
		{"an answer numbered otherwise", func(w *world) { w.Outs = []outcome{answer("h(X1)")} }},
		{"an outcome that is nothing", func(w *world) { w.Outs = append(w.Outs, outcome{}) }},
		{"an outcome that goes on", func(w *world) { w.Outs = []outcome{{Status: impl.SlvGoes}} }},
		{"an outcome that waits", func(w *world) { w.Outs = []outcome{{Status: impl.SlvWaits}} }},
		{"an end with a term", func(w *world) { w.Outs = []outcome{{Status: impl.SlvNone, Term: read("h(1)")}} }},
		{"one answer more than there can be", func(w *world) { w.Outs = repeated(answer("h(1)"), impl.SlvFuel+1) }},
		{"an end behind as many as there can be", func(w *world) {
			w.Outs = append(repeated(answer("h(1)"), impl.SlvFuel), outcome{Status: impl.SlvNone})
		}},
		{"one message more than there can be", func(w *world) { *w = fullNet(impl.NetMax + 1) }},
		{"very many messages", func(w *world) { w.Net = make([]netMsg, 100000) }},
		{"one node's program less", func(w *world) { w.Prog = impl.PrgAlone(w.Prog) }},
		{"no clauses", func(w *world) { w.Prog.Clauses = nil }},
		{"a clause twice too often", func(w *world) { w.Prog.Clauses = slices.Repeat(w.Prog.Clauses, 3) }},
	}
	for _, end := range endOuts() {
		for _, behind := range append(endOuts(), answer("h(1)")) {
			all = append(all, worldTurn{"an outcome behind an end", func(w *world) { w.Outs = []outcome{end, behind} }}, worldTurn{"an outcome behind a later end", func(w *world) { w.Outs = []outcome{answer("h(1)"), end, behind} }})
		}
	}
	for _, to := range []int{math.MinInt, -1, impl.MsgClient + 1, math.MaxInt} {
		for _, k := range []int{askAt, nextAt, richMail - 1} {
			all = append(all, worldTurn{"to nobody", func(w *world) { w.Net[k].To = to }})
		}
	}
	for to := 0; to <= impl.MsgClient; to++ {
		for _, size := range []int{mostBytes + 1, 1 << 20} {
			all = append(all, worldTurn{"more bytes than there can be", func(w *world) { w.Net[newAt] = mailOf(to, size) }},
				worldTurn{"more bytes than there can be, as last", func(w *world) { w.Net = append(w.Net, mailOf(to, size)) }})
		}
	}
	for k := range impl.PrgNodes {
		all = append(all, worldTurn{"a node that is down, with works", func(w *world) {
			w.Nodes[k] = nodeState{Works: []work{{Want: 1, Slv: impl.TrlNew(read([]string{"h(X0)", "k(X0)", "w(X0,X1)"}[k]))}}}
		}}, worldTurn{"a work that is nothing", func(w *world) { w.Nodes[k] = nodeState{Up: true, Works: make([]work, 1)} }})
	}
	for _, one := range harmfulNode() {
		all = append(all, worldTurn{"node 0: " + one.what, func(w *world) { one.turn(&w.Nodes[0]) }})
	}
	return all
}

// checkWorldNotOk: of a world that is not ok there is nothing, whatever happens.
func checkWorldNotOk(t *testing.T, what string, w world) {
	t.Helper()
	if plainWorldOk(w) || impl.WldOk(w) {
		t.Errorf("%s: ok: %s", what, brief(w))
	}
	for kind := range impl.EvRise + 2 {
		if then := impl.WldStep(w, event{Kind: kind, V: 1}); !isNothing(then) {
			t.Errorf("%s: behind a thing of kind %d it is %s", what, kind, brief(then))
		}
	}
	for _, all := range [][]event{nil, {{Kind: impl.EvAsk}}, {{Kind: impl.EvRise}, {Kind: 77}}, make([]event, impl.EvMaxRun), make([]event, impl.EvMaxRun+1)} {
		if then := impl.WldRun(w, all); !isNothing(then) {
			t.Errorf("%s: behind %d things it is %s", what, len(all), brief(then))
		}
	}
	for _, n := range []int{math.MinInt, -1, 0, 1, 3, impl.CalmMax, impl.CalmMax + 1, math.MaxInt} {
		if then := impl.WldCalm(w, n); !isNothing(then) {
			t.Errorf("%s: behind %d rounds it is %s", what, n, brief(then))
		}
	}
}

func TestWorldOkByHand(t *testing.T) {
	t.Parallel()
	for _, one := range harmlessWorld() {
		w := richWorld()
		one.turn(&w)
		if !plainWorldOk(w) || !impl.WldOk(w) {
			t.Errorf("%s: not ok: %s", one.what, brief(w))
		}
		if then := impl.WldStep(w, event{}); !sameValue(then, w) {
			t.Errorf("%s: it does not stay as it is: %s", one.what, brief(then))
		}
	}
	for _, one := range harmfulWorld() {
		w := richWorld()
		one.turn(&w)
		checkWorldNotOk(t, one.what, w)
	}
}

// TestWorldOfAWrongProgram: of it there is nothing.
func TestWorldOfAWrongProgram(t *testing.T) {
	t.Parallel()
	nodes := []nodeState{impl.NodNew(), impl.NodNew(), impl.NodNew()}
	for _, p := range wrongProgs() {
		if w := impl.WldNew(p, read("f(a,X0)")); !isNothing(w) {
			t.Errorf("of %s it begins as %s", brief(p), brief(w))
		}
		w := world{Prog: p, Nodes: nodes, Top: read("f(a,X0)")}
		if impl.WldOk(w) {
			t.Errorf("ok by %s", brief(p))
		}
		if step, run, calm := impl.WldStep(w, event{Kind: impl.EvAsk}), impl.WldRun(w, nil), impl.WldCalm(w, 0); !isNothing(step) || !isNothing(run) || !isNothing(calm) {
			t.Errorf("by %s: %s, %s, %s", brief(p), brief(step), brief(run), brief(calm))
		}
	}
}

// TestWorldOfNoQuestion: of what is none there is nothing.
func TestWorldOfNoQuestion(t *testing.T) {
	for _, top := range append(noQuestions(), nil, read("X0"), read("-3"), read("h(X1)"), wide(impl.TrmMost)) {
		for _, p := range []prog{{}, richNodeProg(), factsProg()} {
			if plainQuestion(top) {
				continue
			}
			if w := impl.WldNew(p, top); !isNothing(w) {
				t.Errorf("of %v it begins as %s", top, brief(w))
			}
			checkWorldNotOk(t, "no question", world{Prog: p, Nodes: impl.WldNew(p, read("a")).Nodes, Top: top})
		}
	}
}

// TestWorldBeginsWithAQuestionAlone: promise 54.
func TestWorldBeginsWithAQuestionAlone(t *testing.T) {
	t.Parallel()
	var all []posed
	for k, p := range somePrograms() {
		all = append(all, posed{p, edgeQuestions()[k%len(edgeQuestions())]})
	}
	for _, q := range append(all, worldPosed(100)...) {
		w := impl.WldNew(q.p, q.top)
		if !impl.WldOk(w) || !sameValue(w.Prog, q.p) || !slices.Equal(w.Top, q.top) || len(w.Outs) > 0 || len(w.Net) > 0 || len(w.Nodes) != impl.PrgNodes {
			t.Fatalf("%v: it begins as %s", q, showWorld(w))
		}
		for k, n := range w.Nodes {
			if !n.Up || len(n.Works) > 0 || !sameValue(n, impl.NodNew()) {
				t.Errorf("%v: it begins with %v %s", q, n, atNode(k))
			}
		}
		if !sameValue(w, plainWldNew(q.p, q.top)) {
			t.Errorf("%v: it begins as %s", q, showWorld(w))
		}
	}
}

// TestTurnedWorldsAreAsPlainlyTold holds worlds with something turned in them against the plain reading.
func TestTurnedWorldsAreAsPlainlyTold(t *testing.T) {
	t.Parallel()
	r := steady()
	ok, wrong := 0, 0
	worlds := anyWorlds(30)
	for k := range 2000 {
		w := noSpareOf(worlds[k%len(worlds)])
		if k%3 == 0 {
			w = richWorld()
		}
		for range 1 + r.IntN(4)/3 {
			turnSome(r, reflect.ValueOf(&w).Elem())
		}
		if plainWorldOk(w) {
			ok++
		} else {
			wrong++
		}
		if got, want := impl.WldOk(w), plainWorldOk(w); got != want {
			t.Fatalf("%t, want %t, of %s", got, want, showWorld(w))
		}
		for _, e := range someEvents(r, w, 2) {
			checkStepPlainly(t, w, e)
		}
		all := append(blindEvents(r, w, 6), event{Kind: impl.EvRun}, event{Kind: impl.EvAsk})
		if got, want := impl.WldRun(w, all), stepByStep(w, all); !sameValue(got, want) {
			t.Fatalf("behind %v\n%s\nis\n%s\nwant\n%s", all, showWorld(w), showWorld(got), showWorld(want))
		}
	}
	if ok < 300 || wrong < 700 {
		t.Errorf("only %d are ok, %d are not", ok, wrong)
	}
}

// checkStepPlainly holds a step against the plain reading, and is what it answers.
func checkStepPlainly(t *testing.T, w world, e event) world {
	t.Helper()
	got, want := impl.WldStep(w, e), plainWldStep(w, e)
	if !sameValue(got, want) {
		t.Fatalf("behind %v\n%s\nis\n%s\nwant\n%s", e, showWorld(w), showWorld(got), showWorld(want))
	}
	return got
}
