package tests

import (
	"bytes"
	"math"
	"slices"
	"strconv"
	"testing"

	"loop.example/catechist/impl"
)

// withoutMail is what is on its way without the message at a place.
func withoutMail(all []netMsg, at int) []netMsg { return slices.Concat(all[:at], all[at+1:]) }

// mailAt says whether there is a message at a place.
func mailAt(w world, at int) bool { return at >= 0 && at < len(w.Net) }

func nodeIsThere(at int) bool { return at >= 0 && at < impl.PrgNodes }

// sameButMail says whether two worlds differ in nothing but what is on its way.
func sameButMail(a, b world) bool {
	a.Net, b.Net = nil, nil
	return sameValue(a, b)
}

// TestStepsAreAsPlainlyTold: all that can happen in worlds by hand, and some of it in others, is as the plain reading says; and a world stays a world (promise 48).
func TestStepsAreAsPlainlyTold(t *testing.T) {
	t.Parallel()
	r := steady()
	turned := map[int]int{}
	look := func(w world, e event) {
		then := checkStepPlainly(t, w, e)
		if !impl.WldOk(then) || !sameValue(then.Prog, w.Prog) || !slices.Equal(then.Top, w.Top) {
			t.Fatalf("behind %v %s is not ok: %s", e, showWorld(w), showWorld(then))
		}
		if !sameValue(then, w) {
			turned[e.Kind]++
		}
	}
	for _, e := range everyEvent(richWorld()) {
		look(richWorld(), e)
	}
	for _, n := range []int{impl.NetMax - 1, impl.NetMax} {
		for _, e := range someEvents(r, fullNet(n), 60) {
			look(fullNet(n), e)
		}
	}
	for _, w := range anyWorlds(60) {
		for _, e := range someEvents(r, w, 12) {
			look(w, e)
		}
		for at := range min(len(w.Net), 4) {
			look(w, event{Kind: impl.EvHear, At: at})
		}
		look(w, event{Kind: impl.EvAsk})
		for at := range impl.PrgNodes {
			look(w, event{Kind: impl.EvRun, At: at})
			look(w, event{Kind: impl.EvRise, At: at})
		}
	}
	for kind := impl.EvAsk; kind <= impl.EvRise; kind++ {
		if turned[kind] < 15 {
			t.Errorf("only %d things of kind %d turn something: %v", turned[kind], kind, turned)
		}
	}
}

// TestWildWorldsAreAsPlainlyTold: from their beginning on, whatever happens.
func TestWildWorldsAreAsPlainlyTold(t *testing.T) {
	t.Parallel()
	r := steady()
	for k, q := range worldPosed(30) {
		wild(r, q, 60, 5+k%3*10, func(w world, e event, then world) { checkStepPlainly(t, w, e) })
	}
}

// TestWhatIsNotThereTurnsNothing: a node or a message that is none, a kind that is none, a byte that is none, and what turns no byte.
func TestWhatIsNotThereTurnsNothing(t *testing.T) {
	t.Parallel()
	far := []int{math.MinInt, -impl.NetMax, -2, -1, math.MaxInt - 1, math.MaxInt}
	for _, w := range []world{richWorld(), fullNet(impl.NetMax), impl.WldNew(richNodeProg(), read("h(X0)"))} {
		stays := func(e event) {
			t.Helper()
			if then := impl.WldStep(w, e); !sameValue(then, w) {
				t.Errorf("behind %v it is %s", e, showWorld(then))
			}
		}
		for _, kind := range append(far, 0, 9, 10, 100, impl.EvAsk-1, impl.EvRise+1) {
			for _, at := range []int{-1, 0, 1, 2, 3} {
				stays(event{Kind: kind, At: at, Pos: 1, V: 1})
			}
		}
		for _, at := range append(far, impl.PrgNodes, impl.PrgNodes+1, impl.MsgClient+1) {
			for _, kind := range []int{impl.EvRun, impl.EvFall, impl.EvRise} {
				stays(event{Kind: kind, At: at})
			}
		}
		for _, at := range append(far, len(w.Net), len(w.Net)+1, impl.NetMax, impl.NetMax+1) {
			for _, kind := range []int{impl.EvHear, impl.EvLose, impl.EvTwice, impl.EvBend} {
				stays(event{Kind: kind, At: at, V: 1})
			}
		}
		for at, m := range w.Net[:min(len(w.Net), richMail)] {
			for _, pos := range append(far, len(m.Bytes), len(m.Bytes)+1) {
				stays(event{Kind: impl.EvBend, At: at, Pos: pos, V: 1})
			}
			for _, v := range append(far, 0, 256, 257, 512, -255, -256) {
				stays(event{Kind: impl.EvBend, At: at, V: v})
			}
		}
	}
}

// TestWhoLosesAMessageLosesThatAlone: promise 81.
func TestWhoLosesAMessageLosesThatAlone(t *testing.T) {
	t.Parallel()
	r := steady()
	for _, w := range append(anyWorlds(40), wildWorlds(r, worldPosed(40), 60)...) {
		for at := -1; at <= min(len(w.Net), 12); at++ {
			lost, twice := impl.WldStep(w, event{Kind: impl.EvLose, At: at}), impl.WldStep(w, event{Kind: impl.EvTwice, At: at})
			e := bendOf(r, w, at)
			bent := impl.WldStep(w, e)
			for _, then := range []world{lost, twice, bent} {
				if !sameButMail(then, w) || len(then.Net) > len(w.Net)+1 {
					t.Fatalf("%s: at %d it is %s", showWorld(w), at, showWorld(then))
				}
			}
			if !mailAt(w, at) {
				continue
			}
			copied := w.Net
			if len(w.Net) < impl.NetMax {
				copied = append(slices.Clone(w.Net), w.Net[at])
			}
			if !sameValue(lost.Net, withoutMail(w.Net, at)) || !sameValue(twice.Net, copied) || len(bent.Net) != len(w.Net) {
				t.Fatalf("%s: at %d it is lost to %s, comes twice to %s, is bent to %s", showWorld(w), at, showWorld(lost), showWorld(twice), showWorld(bent))
			}
			checkBent(t, w, e, bent)
		}
	}
}

// checkBent: just that byte of just that message is turned, once.
func checkBent(t *testing.T, w world, e event, then world) {
	t.Helper()
	for k, m := range w.Net {
		is := then.Net[k]
		turns := k == e.At && !m.Bent && e.Pos >= 0 && e.Pos < len(m.Bytes) && e.V > 0 && e.V < 256
		if turns {
			m.Bytes = bytes.Clone(m.Bytes)
			m.Bytes[e.Pos] ^= byte(e.V)
			m.Bent = true
		}
		if !sameValue(is, m) {
			t.Fatalf("%s: behind %v message %d is %v", showWorld(w), e, k, is)
		}
		if again := impl.WldStep(then, e); turns && !sameValue(again, then) {
			t.Fatalf("%s: behind %v once more it is %s", showWorld(w), e, showWorld(again))
		}
	}
}

// TestBentByHand: each byte of a message, by one bit and by all; and what is no byte of it.
func TestBentByHand(t *testing.T) {
	w := richWorld()
	for pos := range w.Net[tellAt].Bytes {
		for _, v := range []int{1, 128, 255} {
			then := impl.WldStep(w, event{Kind: impl.EvBend, At: tellAt, Pos: pos, V: v})
			checkBent(t, w, event{At: tellAt, Pos: pos, V: v}, then)
			if !then.Net[tellAt].Bent || then.Net[tellAt].Bytes[pos]^w.Net[tellAt].Bytes[pos] != byte(v) {
				t.Errorf("it is bent to %v", then.Net[tellAt])
			}
		}
	}
	if then := impl.WldStep(w, event{Kind: impl.EvBend, At: emptyAt, V: 1}); !sameValue(then, w) {
		t.Errorf("without bytes it is bent to %s", showWorld(then))
	}
	if then := impl.WldStep(w, event{Kind: impl.EvBend, At: bentAt, V: 1}); !sameValue(then, w) {
		t.Errorf("what is bent is bent once more to %s", showWorld(then))
	}
}

// TestACopyThatIsLostWasNeverThere: promise 51; a copy is bent as what it is a copy of.
func TestACopyThatIsLostWasNeverThere(t *testing.T) {
	t.Parallel()
	r := steady()
	for _, w := range append(anyWorlds(40), wildWorlds(r, worldPosed(60), 60)...) {
		for at := range w.Net {
			twice := impl.WldStep(w, event{Kind: impl.EvTwice, At: at})
			lost := impl.WldStep(twice, event{Kind: impl.EvLose, At: len(w.Net)})
			if len(w.Net) == impl.NetMax {
				if !sameValue(twice, w) || !sameValue(lost, w) {
					t.Fatalf("without room %d comes twice to %s", at, showWorld(twice))
				}
				continue
			}
			if !sameValue(lost, w) || !sameValue(twice.Net[len(w.Net)], w.Net[at]) {
				t.Fatalf("%s: %d comes twice to %s, its copy is lost to %s", showWorld(w), at, showWorld(twice), showWorld(lost))
			}
		}
	}
}

// TestWhoFallsForgets: promise 82.
func TestWhoFallsForgets(t *testing.T) {
	t.Parallel()
	r := steady()
	for _, w := range append(anyWorlds(60), wildWorlds(r, worldPosed(60), 60)...) {
		for at := -1; at <= impl.PrgNodes; at++ {
			fallen := impl.WldStep(w, event{Kind: impl.EvFall, At: at})
			risen := impl.WldStep(fallen, event{Kind: impl.EvRise, At: at})
			up := impl.WldStep(w, event{Kind: impl.EvRise, At: at})
			want, wantUp := w, w
			if nodeIsThere(at) {
				want, wantUp = plainWithNode(w, at, nodeState{}), plainWithNode(w, at, impl.NodNew())
			}
			if !sameValue(fallen, want) || !sameValue(risen, wantUp) {
				t.Fatalf("%s: %s falls to %s, and rises to %s", showWorld(w), atNode(at), showWorld(fallen), showWorld(risen))
			}
			if !nodeIsThere(at) || w.Nodes[at].Up {
				wantUp = w
			}
			if again := impl.WldStep(fallen, event{Kind: impl.EvFall, At: at}); !sameValue(up, wantUp) || !sameValue(again, fallen) {
				t.Fatalf("%s: %s rises to %s, and falls once more to %s", showWorld(w), atNode(at), showWorld(up), showWorld(again))
			}
		}
	}
}

// TestWhoAsksFromOutsideAsksForTheNext: promise 83, and that nothing is asked for behind the end.
func TestWhoAsksFromOutsideAsksForTheNext(t *testing.T) {
	t.Parallel()
	r := steady()
	asked, ended := map[int]int{}, 0
	for _, w := range append(anyWorlds(80), wildWorlds(r, worldPosed(80), 120)...) {
		then := impl.WldStep(w, event{Kind: impl.EvAsk, At: r.IntN(9) - 4, Pos: r.IntN(9), V: r.IntN(9)})
		if ends(w.Outs) || len(w.Net) == impl.NetMax {
			ended++
			if !sameValue(then, w) {
				t.Fatalf("%s: asked, it is %s", showWorld(w), showWorld(then))
			}
			continue
		}
		m := message{Kind: impl.MsgAsk, From: impl.MsgClient, Top: w.Top, N: len(w.Outs) + 1}
		want := netMsg{To: impl.PrgNode(w.Prog, w.Top), Bytes: plainMsgBytes(m)}
		if !sameButMail(then, w) || !sameValue(then.Net, append(slices.Clone(w.Net), want)) {
			t.Fatalf("%s: asked, it is %s", showWorld(w), showWorld(then))
		}
		asked[want.To]++
	}
	if asked[0] < 50 || asked[1] < 20 || asked[2] < 20 || ended < 40 {
		t.Errorf("only so many are asked: %v, and %d have an end, or no room", asked, ended)
	}
}

// TestAskedForSoManyOutcomes: up to SlvFuel, and none beyond.
func TestAskedForSoManyOutcomes(t *testing.T) {
	t.Parallel()
	for _, n := range []int{0, 1, 2, 254, 255, 256, impl.SlvFuel - 2, impl.SlvFuel - 1, impl.SlvFuel} {
		w := richWorld()
		w.Outs, w.Net = repeated(answer("h(1)"), n), nil
		then := impl.WldStep(w, event{Kind: impl.EvAsk})
		if n == impl.SlvFuel {
			if !sameValue(then, w) {
				t.Errorf("with %d outcomes it asks %v", n, then.Net)
			}
			continue
		}
		if len(then.Net) != 1 || then.Net[0].To != 0 || !bytes.Equal(then.Net[0].Bytes, plainMsgBytes(askOf(impl.MsgClient, "h(X0)", n+1))) {
			t.Fatalf("with %d outcomes it asks %v", n, then.Net)
		}
		w.Net = []netMsg{{To: impl.MsgClient, Bytes: plainMsgBytes(tellOf("h(X0)", n+1, answer("h(2)")))}}
		then = impl.WldStep(w, event{Kind: impl.EvHear})
		if len(then.Net) > 0 || len(then.Outs) != n+1 || !sameOuts(then.Outs[n:], []outcome{answer("h(2)")}) || !impl.WldOk(then) {
			t.Errorf("with %d outcomes, told the next one, it has %d", n, len(then.Outs))
		}
	}
}

// TestAMessageIsHeardOnce: promise 84.
func TestAMessageIsHeardOnce(t *testing.T) {
	t.Parallel()
	r := steady()
	turned, said, told := 0, 0, 0
	for _, w := range append(anyWorlds(80), wildWorlds(r, worldPosed(120), 100)...) {
		for at := range min(len(w.Net), 20) {
			m := w.Net[at]
			then := impl.WldStep(w, event{Kind: impl.EvHear, At: at})
			rest := withoutMail(w.Net, at)
			if len(then.Net) > len(rest)+1 || len(then.Net) < len(rest) || !sameValue(then.Net[:len(rest)], rest) {
				t.Fatalf("%s: %d is heard to %s", showWorld(w), at, showWorld(then))
			}
			said += len(then.Net) - len(rest)
			for k := range w.Nodes {
				if k != m.To && !sameValue(then.Nodes[k], w.Nodes[k]) {
					t.Fatalf("%s: %d is heard, and %s turns: %s", showWorld(w), at, atNode(k), showWorld(then))
				}
			}
			if m.To == impl.MsgClient {
				told += len(then.Outs) - len(w.Outs)
				continue
			}
			n, say := impl.NodHear(w.Prog, m.To, w.Nodes[m.To], m.Bytes)
			var sent []netMsg
			if len(say.Bytes) > 0 {
				sent = []netMsg{{To: say.To, Bytes: say.Bytes}}
			}
			if !sameValue(then.Nodes[m.To], n) || !sameValue(then.Net[len(rest):], sent) || !sameOuts(then.Outs, w.Outs) {
				t.Fatalf("%s: %d is heard to %s", showWorld(w), at, showWorld(then))
			}
			if !sameValue(n, w.Nodes[m.To]) {
				turned++
			}
		}
	}
	if turned < 150 || said < 60 || told < 30 {
		t.Errorf("only %d turn a node, %d are answered, %d tell an outcome", turned, said, told)
	}
}

// TestHeardByHand: what each message of richWorld does.
func TestHeardByHand(t *testing.T) {
	w := richWorld()
	hear := func(at int) world { return impl.WldStep(w, event{Kind: impl.EvHear, At: at}) }
	says := func(then world, to int, m message) {
		t.Helper()
		if got := then.Net[len(then.Net)-1]; len(then.Net) != richMail || got.To != to || got.Bent || !bytes.Equal(got.Bytes, plainMsgBytes(m)) {
			t.Errorf("it says %v", got)
		}
	}
	then := hear(askAt)
	says(then, 1, tellOf("bad(X0)", 1, answer("bad(1)")))
	if n := then.Nodes[0]; impl.TrmText(n.Works[0].Slv.Top) != "bad(X0)" || len(n.Works) != len(w.Nodes[0].Works) {
		t.Errorf("asked, node 0 is %v", n)
	}
	if then = hear(newAt); len(then.Net) != richMail-1 || impl.TrmText(then.Nodes[0].Works[0].Slv.Top) != "e(X0)" || then.Nodes[0].Works[0].Want != 2 {
		t.Errorf("asked, it is %s", showWorld(then))
	}
	if then = hear(tellAt); len(then.Net) != richMail-1 || then.Nodes[0].Works[waitsAt].Slv.Status != impl.SlvGoes {
		t.Errorf("told, it is %s", showWorld(then))
	}
	if then = hear(nextAt); showOuts(then.Outs) != "h(1); h(2); " || !sameValue(then.Net, withoutMail(w.Net, nextAt)) || !sameValue(then.Nodes, w.Nodes) {
		t.Errorf("told the next outcome, it is %s", showWorld(then))
	}
	for _, at := range []int{bentAt, downAt, lateAt, otherAt, strayAt, emptyAt} {
		lost := w
		lost.Net = withoutMail(w.Net, at)
		if then = hear(at); !sameValue(then, lost) {
			t.Errorf("what nobody hears turns it to %s", showWorld(then))
		}
	}
	// What is bent is not looked at by who hears: just the bytes are.
	w.Net[nextAt].Bent = true
	if then = hear(nextAt); showOuts(then.Outs) != "h(1); h(2); " {
		t.Errorf("told by bytes that are as they were, it has %s", showOuts(then.Outs))
	}
}

// TestToldFromOutside: just the next outcome of the question, and none behind an end.
func TestToldFromOutside(t *testing.T) {
	for _, one := range []struct {
		outs []outcome
		m    message
		want string
	}{
		{nil, tellOf("h(X0)", 1, answer("h(4)")), "h(4); "}, {nil, tellOf("h(X0)", 2, answer("h(4)")), ""}, {nil, tellOf("h(X0)", 1, outcome{Status: impl.SlvNone}), "none; "},
		{nil, tellOf("h(X0)", 1, outcome{Status: impl.SlvBig}), "too big; "}, {nil, tellOf("h(X0)", 1, outcome{Status: impl.SlvWrong}), "wrong; "}, {nil, tellOf("h(4)", 1, answer("h(4)")), ""},
		{nil, tellOf("h(X0,X1)", 1, answer("h(4,4)")), ""}, {nil, tellOf("e(X0)", 1, outcome{Status: impl.SlvNone}), ""}, {nil, askOf(3, "h(X0)", 1), ""}, {nil, askOf(0, "h(X0)", 1), ""},
		{repeated(answer("h(1)"), 2), tellOf("h(X0)", 3, answer("h(1)")), "h(1); h(1); h(1); "}, {repeated(answer("h(1)"), 2), tellOf("h(X0)", 2, answer("h(2)")), "h(1); h(1); "},
		{repeated(answer("h(1)"), 2), tellOf("h(X0)", 4, answer("h(2)")), "h(1); h(1); "}, {repeated(answer("h(1)"), 2), tellOf("h(X0)", 3, outcome{Status: impl.SlvWrong}), "h(1); h(1); wrong; "},
		{[]outcome{{Status: impl.SlvNone}}, tellOf("h(X0)", 2, answer("h(2)")), "none; "}, {[]outcome{{Status: impl.SlvNone}}, tellOf("h(X0)", 2, outcome{Status: impl.SlvNone}), "none; "},
		{[]outcome{{Status: impl.SlvBig}}, tellOf("h(X0)", 2, answer("h(2)")), "too big; "}, {[]outcome{{Status: impl.SlvWrong}}, tellOf("h(X0)", 1, answer("h(2)")), "wrong; "},
	} {
		w := richWorld()
		w.Outs, w.Net = one.outs, []netMsg{{To: impl.MsgClient, Bytes: plainMsgBytes(one.m)}, w.Net[askAt]}
		then := checkStepPlainly(t, w, event{Kind: impl.EvHear})
		if showOuts(then.Outs) != one.want || len(then.Net) != 1 || !sameValue(then.Nodes, w.Nodes) {
			t.Errorf("told %v behind %s, it has %s", one.m, showOuts(one.outs), showOuts(then.Outs))
		}
	}
}

// TestSentAsLongAsThereIsRoom: NetMax, one less, and more than there is room for.
func TestSentAsLongAsThereIsRoom(t *testing.T) {
	t.Parallel()
	for _, mail := range []int{richMail, impl.NetMax - 33, impl.NetMax - 32, impl.NetMax - 31, impl.NetMax - 5, impl.NetMax - 1, impl.NetMax} {
		// Each of its works asks node 1, when it goes on.
		w := fullNet(mail)
		w.Nodes[0] = fullOf(impl.NodMost)
		then := checkStepPlainly(t, w, event{Kind: impl.EvRun, At: 0})
		if want := min(mail+impl.NodMost, impl.NetMax); len(then.Net) != want || !impl.WldOk(then) {
			t.Errorf("with %d on their way there are %d then, want %d", mail, len(then.Net), want)
		}
		for k, m := range then.Net[mail:] {
			if m.To != 1 || !bytes.Equal(m.Bytes, plainMsgBytes(askOf(0, "k("+strconv.Itoa(k)+")", 1))) {
				t.Errorf("sent as %d is %s to %d", k, showMail(m.Bytes), m.To)
			}
		}
		ask, twice := impl.WldStep(w, event{Kind: impl.EvAsk}), impl.WldStep(w, event{Kind: impl.EvTwice, At: mail - 1})
		if want := min(mail+1, impl.NetMax); len(ask.Net) != want || len(twice.Net) != want {
			t.Errorf("with %d on their way there are %d and %d then", mail, len(ask.Net), len(twice.Net))
		}
		// What is heard has made room for what is said to it.
		w = fullNet(mail)
		if then := impl.WldStep(w, event{Kind: impl.EvHear, At: askAt}); len(then.Net) != mail || then.Net[mail-1].To != 1 || then.Net[mail-1].Bent {
			t.Errorf("with %d on their way there are %d behind an answer", mail, len(then.Net))
		}
	}
}

// TestHeardFromEachPlace: whichever of as many as there can be is heard or lost, the others keep their order.
func TestHeardFromEachPlace(t *testing.T) {
	t.Parallel()
	w := impl.WldNew(factsProg(), read("f(X0)"))
	for k := range impl.NetMax {
		w.Net = append(w.Net, netMsg{To: k % 4, Bytes: plainMsgBytes(message{Kind: impl.MsgAsk, Top: read("none"), N: k + 1})})
	}
	for at := range w.Net {
		lost := impl.WldStep(w, event{Kind: impl.EvLose, At: at})
		heard := impl.WldStep(w, event{Kind: impl.EvHear, At: at})
		if !sameValue(lost.Net, withoutMail(w.Net, at)) || !sameValue(heard.Net[:len(w.Net)-1], withoutMail(w.Net, at)) {
			t.Fatalf("the one at %d is lost to %s, heard to %s", at, showWorld(lost), showWorld(heard))
		}
	}
	// One behind the other, with others sent between, so that all places are used over and over.
	r, want := steady(), slices.Clone(w.Net)
	var all []event
	for len(all) <= impl.EvMaxRun-3 {
		at := r.IntN(len(want))
		all = append(all, event{Kind: impl.EvTwice, At: at}, event{Kind: impl.EvLose, At: r.IntN(3)})
		if len(want) < impl.NetMax {
			want = append(want, want[at])
		}
		want = withoutMail(want, all[len(all)-1].At)
		if r.IntN(4) == 0 {
			at = r.IntN(len(want))
			all = append(all, event{Kind: impl.EvLose, At: at})
			want = withoutMail(want, at)
		}
	}
	if then := impl.WldRun(w, all); !sameValue(then.Net, want) || !sameButMail(then, w) {
		t.Errorf("behind many things it is %s", showWorld(then))
	}
}

// TestDownHearsAndDoesNothing: what comes to who is down is lost, and who is down asks nobody.
func TestDownHearsAndDoesNothing(t *testing.T) {
	w := richWorld()
	for k := range w.Nodes {
		w.Nodes[k] = nodeState{}
	}
	for at, m := range w.Net {
		if m.To == impl.MsgClient {
			continue
		}
		lost := w
		lost.Net = withoutMail(w.Net, at)
		if then := impl.WldStep(w, event{Kind: impl.EvHear, At: at}); !sameValue(then, lost) {
			t.Errorf("down, behind %s it is %s", showMail(m.Bytes), showWorld(then))
		}
	}
	for at := range impl.PrgNodes {
		if then := impl.WldStep(w, event{Kind: impl.EvRun, At: at}); !sameValue(then, w) {
			t.Errorf("down, %s goes on to %s", atNode(at), showWorld(then))
		}
	}
}
