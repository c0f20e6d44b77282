package tests

import (
	"math"
	"reflect"
	"slices"
	"strconv"
	"testing"

	"loop.example/catechist/impl"
)

// checkNoMessage looks that a message is not ok, has no bytes, and that what would be written of it is not read as it.
func checkNoMessage(t *testing.T, what string, m message) {
	t.Helper()
	if plainMsgOk(m) {
		t.Fatalf("%s is plainly ok: %.200v", what, m)
	}
	if impl.MsgOk(m) {
		t.Errorf("%s is ok: %.200v", what, m)
	}
	if b := impl.MsgBytes(m); len(b) != 0 {
		t.Errorf("%s has the bytes % .200x", what, b)
	}
	if got, ok := checkMessageOf(t, inFrame(plainBody(m))); ok && sameValue(got, m) {
		t.Errorf("%s is read as %v", what, got)
	}
}

// checkMessage looks that a message is ok, has its bytes, and is read from them.
func checkMessage(t *testing.T, m message) {
	t.Helper()
	if !plainMsgOk(m) || !impl.MsgOk(m) {
		t.Fatalf("%v: ok %t, want %t", m, impl.MsgOk(m), plainMsgOk(m))
	}
	b := impl.MsgBytes(m)
	if want := plainMsgBytes(m); !slices.Equal(b, want) {
		t.Fatalf("%v has the bytes % x, want % x", m, b, want)
	}
	if got, ok := checkMessageOf(t, b); !ok || !sameValue(got, m) {
		t.Fatalf("%v is read as %v, %t", m, got, ok)
	}
}

// TestMessagesThatAreOk: of each kind, from everywhere, and at the edges.
func TestMessagesThatAreOk(t *testing.T) {
	for _, m := range someMessages() {
		checkMessage(t, m)
	}
	// An empty list of places is none.
	m := askOf(1, "p(X0)", 3)
	m.Out.Term = []cell{}
	checkMessage(t, m)
	m = tellOf("p(X0)", 3, outcome{Status: impl.SlvNone, Term: []cell{}})
	checkMessage(t, m)
}

// TestNumbersOfMessages: which outcome, and from whom.
func TestNumbersOfMessages(t *testing.T) {
	for _, n := range []int{math.MinInt, -impl.SlvFuel, -1, 0, impl.SlvFuel + 1, impl.TrmVars, 1<<24 - 100000, 1<<24 + 1, 1<<32 + 1, math.MaxInt} {
		for _, m := range littleMessages() {
			m.N = n
			checkNoMessage(t, "outcome "+strconv.Itoa(n), m)
		}
	}
	for _, n := range edgeNumbers() {
		for _, m := range littleMessages() {
			m.N = n
			checkMessage(t, m)
		}
	}
	for _, from := range []int{math.MinInt, -256, -1, impl.MsgClient + 1, 255, 256, 257, 1 << 32, math.MaxInt} {
		for _, m := range littleMessages() {
			m.From = from
			checkNoMessage(t, "from afar", m)
		}
	}
	for from := range impl.MsgClient + 1 {
		checkMessage(t, askOf(from, "p(X0)", 1))
		for _, o := range append(endOuts(), answer("p(a)")) {
			m := tellOf("p(X0)", 1, o)
			m.From = from
			if from == 0 {
				checkMessage(t, m)
			} else {
				checkNoMessage(t, "told by somebody", m)
			}
		}
	}
}

// noQuestions are terms that are no question, and places that are no term.
func noQuestions() [][]cell {
	return append(wrongPlaces(), read("X0"), read("X1"), read("0"), read("-7"), read("p(X1)"), read("p(X1,X0)"), read("p(X0,X2)"), read("p(f(X0,X2),X1)"), read("p(X99999)"))
}

func TestNoQuestionIsInNoMessage(t *testing.T) {
	for _, top := range noQuestions() {
		checkNoMessage(t, "an ask", message{Kind: impl.MsgAsk, Top: top, N: 1})
		for _, o := range append(endOuts(), answer("X0"), outcome{Status: impl.SlvAnswer, Term: top}) {
			checkNoMessage(t, "a tell", message{Kind: impl.MsgTell, Top: top, N: 1, Out: o})
		}
	}
}

// TestKindsThatAreNone: neither that somebody asks, nor what is told.
func TestKindsThatAreNone(t *testing.T) {
	for _, kind := range []int{math.MinInt, -1, 0, 3, 4, 5, 6, 255, 256, 257, 258, 1<<32 + 1, 1<<32 + 2, math.MaxInt} {
		for _, m := range littleMessages() {
			m.Kind = kind
			checkNoMessage(t, "no kind", m)
		}
	}
	for _, m := range littleMessages() {
		// What is asked is not told, and what is told is not asked.
		m.Kind = impl.MsgAsk + impl.MsgTell - m.Kind
		checkNoMessage(t, "the other kind", m)
	}
	checkNoMessage(t, "nothing", message{})
}

// TestAskWithAnOutcome: nothing is told by who asks.
func TestAskWithAnOutcome(t *testing.T) {
	for status := -1; status < 9; status++ {
		for _, term := range [][]cell{nil, read("p(a)"), read("X0"), places(cell{}), places(variable(0), variable(0))} {
			m := askOf(0, "p(X0)", 1)
			m.Out = outcome{Status: status, Term: term}
			if status == 0 && len(term) == 0 {
				checkMessage(t, m)
			} else if status == 0 {
				// Without a status that it is one an answer is not written.
				if impl.MsgOk(m) || len(impl.MsgBytes(m)) != 0 {
					t.Errorf("%v is ok", m)
				}
			} else {
				checkNoMessage(t, "an ask with an outcome", m)
			}
		}
	}
}

// TestOutcomeThatIsNoneOfTheQuestion: it is not told.
func TestOutcomeThatIsNoneOfTheQuestion(t *testing.T) {
	for _, one := range []struct{ top, term string }{
		// Which cannot be the same as the question.
		{"e(a,X0)", "e(b,b)"}, {"e(a,X0)", "e(a)"}, {"e(a,X0)", "f(a,b)"}, {"e(a,X0)", "7"}, {"e(X0,X0)", "e(a,b)"}, {"e(X0,X0)", "e(X0,g(X0))"}, {"z", "a"}, {"z", "z(X0)"}, {"p(1)", "p(2)"}, {"p(1)", "p(a)"}, {"p(X0,g(X0))", "p(X0,X0)"},
		// Whose variables are not numbered as they come first.
		{"p(X0)", "p(X1)"}, {"p(X0,X1)", "p(X1,X0)"}, {"p(X0,X1)", "p(X0,X2)"}, {"p(X0)", "X1"}, {"p(X0)", "p(f(X0,X2))"}, {"p(X0)", "p(X99999)"},
	} {
		checkNoMessage(t, one.term+" of "+one.top, tellOf(one.top, 1, answer(one.term)))
	}
	for _, status := range []int{impl.SlvNone, impl.SlvBig, impl.SlvWrong, impl.SlvGoes, impl.SlvWaits, 0, 7} {
		m := tellOf("p(X0)", 1, outcome{Status: status, Term: read("p(a)")})
		if impl.MsgOk(m) || len(impl.MsgBytes(m)) != 0 {
			t.Errorf("%d with a term is ok", status)
		}
	}
	for _, status := range []int{math.MinInt, -1, 0, impl.SlvGoes, impl.SlvAnswer, impl.SlvWaits, 7, 255, 256 + impl.SlvNone, 1<<32 + impl.SlvBig, math.MaxInt} {
		checkNoMessage(t, "no outcome's status", tellOf("p(X0)", 1, outcome{Status: status}))
	}
	for _, term := range wrongPlaces() {
		checkNoMessage(t, "an answer that is no term", tellOf("p(X0)", 1, outcome{Status: impl.SlvAnswer, Term: term}))
	}
}

// TestAnswersThatAreOfTheQuestion: what can be the same as it, however big that is.
func TestAnswersThatAreOfTheQuestion(t *testing.T) {
	for _, one := range []struct{ top, term string }{
		{"e(a,X0)", "e(a,b)"}, {"e(a,X0)", "e(X0,X1)"}, {"e(a,X0)", "X0"}, {"p(X0,X1)", "p(X0,X0)"}, {"p(X0,g(X0))", "p(X0,X1)"}, {"z", "z"}, {"z", "X0"}, {"p(X0)", "p(f(X0,X1,X0))"},
	} {
		checkMessage(t, tellOf(one.top, 1, answer(one.term)))
	}
	top := plainCanon(append(places(name("f", 2)), slices.Concat(wideVars(6), places(variable(0)))...))
	term := plainCanon(slices.Concat(places(name("f", 2)), places(variable(1)), places(name("h", 3), variable(0), variable(0), variable(0))))
	checkMessage(t, message{Kind: impl.MsgTell, Top: top, N: 1, Out: outcome{Status: impl.SlvAnswer, Term: term}})
}

// TestTurnedMessagesAreAsPlainlyTold holds messages with something turned in them against the plain reading.
func TestTurnedMessagesAreAsPlainlyTold(t *testing.T) {
	r, all := steady(), append(someMessages(), littleMessages()...)
	ok, wrong := 0, 0
	for range 20000 {
		m := noSpareOf(all[r.IntN(len(all))])
		for range 1 + r.IntN(3) {
			turnSome(r, reflect.ValueOf(&m).Elem())
		}
		want := plainMsgOk(m)
		if got := impl.MsgOk(m); got != want {
			t.Fatalf("%t, want %t: %v", got, want, m)
		}
		if got := impl.MsgBytes(m); !slices.Equal(got, plainMsgBytes(m)) {
			t.Fatalf("%v has the bytes % x", m, got)
		}
		if want {
			ok++
		} else {
			wrong++
		}
	}
	if ok < 1500 || wrong < 5000 {
		t.Errorf("only %d are ok, %d are not", ok, wrong)
	}
}
