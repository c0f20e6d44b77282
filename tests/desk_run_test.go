package tests

import (
	"slices"
	"strconv"
	"strings"
	"testing"

	"loop.example/catechist/impl"
)

// checkRun holds a run by lines against what it should be.
func checkRun(t *testing.T, lines []string, question string, events []string, want ...string) {
	t.Helper()
	if got := impl.DskRun(lines, question, events); !slices.Equal(got, want) {
		t.Errorf("of %.80q of %s, behind %s\nit is %s\nwant  %s", question, showLines(lines), showLines(events), showLines(got), showLines(want))
	}
}

// exampleLines are the lines of what happens in the document's example.
func exampleLines() []string {
	return strings.Split("ask,hear 0,run 0,hear 0,run 2,hear 0,run 1,ask,hear 0,run 0,hear 0,run 2,hear 0,bend 0 9 4,hear 0,ask,hear 0,run 0,hear 0,run 2,hear 0,twice 0,hear 0,hear 0,ask,hear 0,run 0,hear 0,run 2,ask,hear 0,run 0,hear 0,fall 2,hear 0,ask,hear 0,run 0,ask,hear 0,hear 0", ",")
}

// TestExampleOfLines: what the document's example answers.
func TestExampleOfLines(t *testing.T) {
	checkAsk(t, deskProg(), "p(a,X0)", 9, "p(a,b)", "p(a,c)", "p(a,c)", "none")
	checkAsk(t, deskProg(), "q(X0)", 9, "q(b)", "none")
	board := []string{"node 0 questions 1", "node 1 questions 1", "node 2 down", "on their way 0", "q(b)"}
	checkRun(t, deskProg(), "q(X0)", exampleLines(), board...)
	checkRun(t, deskProg(), "q(X77)", exampleLines(), board...)
}

func TestRunByHand(t *testing.T) {
	lines := []string{"at 1 e 1", "e(a)", "p(X0) if e(X0)"}
	up := func(k, works int) string { return "node " + strconv.Itoa(k) + " questions " + strconv.Itoa(works) }
	for _, one := range []struct {
		events string
		want   []string
	}{
		{"ask,hear 0,run 0,halt,hear 0,run 1", []string{"event 4", up(0, 1), up(1, 1), up(2, 0), "on their way 0"}},
		{"ask", []string{up(0, 0), up(1, 0), up(2, 0), "on their way 1"}},
		{"ask,ask,ask", []string{up(0, 0), up(1, 0), up(2, 0), "on their way 3"}},
		{"ask,twice 0,twice 1", []string{up(0, 0), up(1, 0), up(2, 0), "on their way 3"}},
		{"ask,lose 0", []string{up(0, 0), up(1, 0), up(2, 0), "on their way 0"}},
		{"ask,lose 1", []string{up(0, 0), up(1, 0), up(2, 0), "on their way 1"}},
		{"ask,hear 1", []string{up(0, 0), up(1, 0), up(2, 0), "on their way 1"}},
		{"ask,bend 0 3 1,hear 0", []string{up(0, 0), up(1, 0), up(2, 0), "on their way 0"}},
		{"ask,bend 0 3 0,hear 0", []string{up(0, 1), up(1, 0), up(2, 0), "on their way 0"}},
		{"ask,bend 0 3 256,hear 0", []string{up(0, 1), up(1, 0), up(2, 0), "on their way 0"}},
		{"ask,bend 0 300 1,hear 0", []string{up(0, 1), up(1, 0), up(2, 0), "on their way 0"}},
		{"fall 0,fall 2", []string{"node 0 down", up(1, 0), "node 2 down", "on their way 0"}},
		{"fall 1,fall 1,rise 1,rise 1,fall 3,rise 3", []string{up(0, 0), up(1, 0), up(2, 0), "on their way 0"}},
		{"ask,fall 0,hear 0", []string{"node 0 down", up(1, 0), up(2, 0), "on their way 0"}},
		{"run 0,run 1,run 2,run 3,run 99999", []string{up(0, 0), up(1, 0), up(2, 0), "on their way 0"}},
		{"hear 0,ask,hear 0,run 0,hear 0,run 1,ask,hear 0,run 0,hear 0,hear 0,ask,hear 0,run 0,ask,hear 0,hear 0", []string{up(0, 1), up(1, 1), up(2, 0), "on their way 0", "p(a)"}},
		{"halt, ask,ask ,Ask,ask 0,run,run -1,run 00,bend 0 0,hear 100000", []string{"event 1", "event 2", "event 3", "event 4", "event 5", "event 6", "event 7", "event 8", "event 9", "event 10", up(0, 0), up(1, 0), up(2, 0), "on their way 0"}},
		{"halt,ask,,hear 0,ask\t,fall 2,event 1", []string{"event 1", "event 3", "event 5", "event 7", up(0, 1), up(1, 0), "node 2 down", "on their way 0"}},
	} {
		checkRun(t, lines, "p(X0)", strings.Split(one.events, ","), one.want...)
		checkRun(t, lines, "p(X31)", strings.Split(one.events, ","), one.want...)
	}
	for _, none := range [][]string{nil, {}} {
		checkRun(t, lines, "p(X0)", none, up(0, 0), up(1, 0), up(2, 0), "on their way 0")
		checkRun(t, none, "none", none, up(0, 0), up(1, 0), up(2, 0), "on their way 0")
	}
}

// TestARunByLinesIsTheRunByWhatTheySay: promise 59; with harm, with lines that are none among the others, and so far that outcomes come.
func TestARunByLinesIsTheRunByWhatTheySay(t *testing.T) {
	t.Parallel()
	r := steady()
	outs, none, down, mail := 0, 0, 0, 0
	wrong := noEvents()
	for k, q := range worldPosed(250) {
		lines, question := linesOfPosed(q)
		begin := impl.WldNew(q.p, q.top)
		events := calmLines(r, begin, 1+r.IntN(9), k%4)
		if k%3 == 0 {
			events = linesOf(blindEvents(r, begin, r.IntN(impl.DskMaxLines)))
		}
		// All lines are ones: it is the board of the world behind them.
		all := thoseThatHappen(events)
		then := impl.WldRun(begin, all)
		checkRun(t, lines, question, linesOf(all), impl.DskBoard(then)...)
		none += len(events) - len(all)
		if len(events) < impl.DskMaxLines {
			events = slices.Insert(events, r.IntN(len(events)+1), wrong[r.IntN(len(wrong))])
		}
		checkRun(t, lines, question, events, append(wrongOf(events), plainBoard(then)...)...)
		if k%4 == 0 {
			// Some, as what never comes to an end takes long thing by thing.
			checkRun(t, lines, question, events, runBy(q, events, impl.WldStep)...)
		}
		outs += len(then.Outs)
		mail += min(len(then.Net), 1)
		down += len(slices.DeleteFunc(slices.Clone(then.Nodes), func(n nodeState) bool { return n.Up }))
	}
	if outs < 250 || none < 150 || down < 100 || mail < 30 {
		t.Errorf("only %d outcomes came, %d lines are none, %d are down, in %d something is on its way", outs, none, down, mail)
	}
}

// thoseThatHappen are what those lines say that are ones.
func thoseThatHappen(events []string) []event {
	var all []event
	for _, line := range events {
		if e, ok := plainEvent(line); ok {
			all = append(all, e)
		}
	}
	return all
}

// wrongOf are the lines that are told of those that are none.
func wrongOf(events []string) []string {
	var all []string
	for k, line := range events {
		if _, ok := plainEvent(line); !ok {
			all = append(all, "event "+strconv.Itoa(k+1))
		}
	}
	return all
}

// TestRunIsAsPlainlyTold holds runs by lines against the plain readings of all chapters ahead.
func TestRunIsAsPlainlyTold(t *testing.T) {
	t.Parallel()
	r := steady()
	for k, q := range worldPosed(30) {
		lines, question := linesOfPosed(q)
		events := linesOf(blindEvents(r, impl.WldNew(q.p, q.top), r.IntN(30)))
		for j := range events {
			if r.IntN(12) == 0 {
				events[j] = bent(r, events[j])
			}
		}
		switch {
		case k%10 == 3:
			question = bent(r, question)
		case k%10 == 6:
			lines = append(lines, "a if")
		}
		checkRun(t, lines, question, events, plainDeskRun(lines, question, events)...)
	}
}

// TestSoManyLines: DskMaxLines, and one more, whatever they are.
func TestSoManyLines(t *testing.T) {
	t.Parallel()
	r := steady()
	for _, q := range append(factsPosed()[:3], handFar()[:6]...) {
		lines, question := linesOfPosed(q)
		many := linesOf(blindEvents(r, impl.WldNew(q.p, q.top), impl.DskMaxLines+1))
		for _, n := range []int{impl.DskMaxLines - 1, impl.DskMaxLines} {
			checkRun(t, lines, question, many[:n], runBy(q, many[:n], impl.WldStep)...)
		}
		checkRun(t, lines, question, many, "long")
		for _, line := range []string{"ask", "halt", "", "fall 1"} {
			for _, n := range []int{impl.DskMaxLines + 1, impl.EvMaxRun, impl.EvMaxRun + 1, 100000} {
				checkRun(t, lines, question, slices.Repeat([]string{line}, n), "long")
			}
			events := slices.Repeat([]string{line}, impl.DskMaxLines)
			checkRun(t, lines, question, events, runBy(q, events, impl.WldStep)...)
		}
	}
	got := impl.DskRun(deskProg(), "q(X0)", make([]string, impl.DskMaxLines))
	if len(got) != impl.DskMaxLines+impl.PrgNodes+1 || got[0] != "event 1" || got[impl.DskMaxLines-1] != "event 150" || got[impl.DskMaxLines] != "node 0 questions 0" {
		t.Errorf("of lines that are none it is %q", got)
	}
}

// TestEachWrongLineIsTold: promise 59, of each line that is none, by its number, wherever it stands, and it turns nothing.
func TestEachWrongLineIsTold(t *testing.T) {
	events := exampleLines()
	board := impl.DskRun(deskProg(), "q(X0)", events)
	for k, line := range noEvents() {
		at := k % (len(events) + 1)
		checkRun(t, deskProg(), "q(X0)", slices.Insert(slices.Clone(events), at, line), append([]string{"event " + strconv.Itoa(at+1)}, board...)...)
	}
	for at := range len(events) + 1 {
		two := slices.Insert(slices.Insert(slices.Clone(events), at, "halt"), len(events)+1, "")
		checkRun(t, deskProg(), "q(X0)", two, append([]string{"event " + strconv.Itoa(at+1), "event " + strconv.Itoa(len(two))}, board...)...)
	}
}
