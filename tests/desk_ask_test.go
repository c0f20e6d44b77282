package tests

import (
	"math"
	"slices"
	"strconv"
	"testing"

	"loop.example/catechist/impl"
)

// checkAsk holds what is told of a question against what it should be.
func checkAsk(t *testing.T, lines []string, question string, most int, want ...string) {
	t.Helper()
	if got := impl.DskAsk(lines, question, most); !slices.Equal(got, want) {
		t.Errorf("of %.80q of %s, %d at most, it tells %q, want %q", question, showLines(lines), most, got, want)
	}
}

// TestAskByHand: programs with no, one and many outcomes, with each end, with numbers and cuts, and the document's example.
func TestAskByHand(t *testing.T) {
	lists := []string{"len(nil,0)", "len(c(X0,X1),X3) if len(X1,X2) and X2 + 1 = X3", "app(nil,X0,X0)", "app(c(X0,X1),X2,c(X0,X3)) if app(X1,X2,X3)"}
	cuts := []string{"k(1)", "k(2)", "k(3)", "m(X0) if k(X0) and !", "o(X0) if k(X0) and 1 < X0 and !", "o(9)", "l(X0,X1) if k(X0) and k(X1) and X0 < X1", "s(X0,X1) if k(X0) and X0 + -5 = X1"}
	ends := []string{"at 2 bad 1", "bad(1)", "bad(X0) if X0 < a", "big(b)", "big(X0) if big(g(X0))", "u if 1 + a = X0", "v(X0) if X0 + 9999 = X1", "loop(X0) if loop(X0)", "one(a)", "one(X0) if loop(X0)"}
	for _, one := range []struct {
		lines    []string
		question string
		want     []string
	}{
		{deskProg(), "p(a,X0)", []string{"p(a,b)", "p(a,c)", "p(a,c)", "none"}},
		{deskProg(), "q(X0)", []string{"q(b)", "none"}},
		{deskProg(), "p(c,X0)", []string{"none"}},
		{deskProg(), "no(X0,X1)", []string{"none"}},
		{deskProg(), "q(z)", []string{"q(z)", "none"}},
		{deskProg(), "e(X3,X3)", []string{"none"}},
		{deskProg(), "e(X9,X7)", []string{"e(a,b)", "e(b,c)", "e(a,c)", "none"}},
		{lists, "len(c(a,c(X0,nil)),X1)", []string{"len(c(a,c(X0,nil)),2)", "none"}},
		{lists, "app(X5,X2,c(1,c(2,nil)))", []string{"app(nil,c(1,c(2,nil)),c(1,c(2,nil)))", "app(c(1,nil),c(2,nil),c(1,c(2,nil)))", "app(c(1,c(2,nil)),nil,c(1,c(2,nil)))", "none"}},
		{cuts, "k(X0)", []string{"k(1)", "k(2)", "k(3)", "none"}},
		{cuts, "m(X0)", []string{"m(1)", "none"}},
		{cuts, "m(3)", []string{"m(3)", "none"}},
		{cuts, "o(X0)", []string{"o(2)", "none"}},
		{cuts, "o(1)", []string{"none"}},
		{cuts, "o(9)", []string{"o(9)", "none"}},
		{cuts, "l(X1,X0)", []string{"l(1,2)", "l(1,3)", "l(2,3)", "none"}},
		{cuts, "s(X0,X1)", []string{"s(1,-4)", "s(2,-3)", "s(3,-2)", "none"}},
		{ends, "bad(X0)", []string{"bad(1)", "wrong"}},
		{ends, "bad(b)", []string{"wrong"}},
		{ends, "big(b)", []string{"big(b)", "too big"}},
		{ends, "big(a)", []string{"too big"}},
		{ends, "u", []string{"wrong"}},
		{ends, "v(0)", []string{"v(0)", "none"}},
		{ends, "v(1)", []string{"wrong"}},
		{ends, "loop(X0)", nil},
		{ends, "one(X0)", []string{"one(a)"}},
		{[]string{"at 1 e 1", "e(a)", "p(X0) if e(X0)"}, "p(X4)", []string{"p(a)", "none"}},
		{nil, "a", []string{"none"}},
		{[]string{}, "a(X0)", []string{"none"}},
		{[]string{"at 2 a 0"}, "a", []string{"none"}},
		{[]string{"v(X3,f(X3,X5))", "v(X0,X0)"}, "v(X2,X1)", []string{"v(X0,f(X0,X1))", "v(X0,X0)", "none"}},
	} {
		checkAsk(t, one.lines, one.question, 9, one.want...)
	}
}

// TestAQuestionByLinesIsTheQuestion: promise 58, its first half.
func TestAQuestionByLinesIsTheQuestion(t *testing.T) {
	t.Parallel()
	several, ended := 0, map[int]int{}
	for k, q := range append(somePosed(400), worldPosed(60)...) {
		lines, question := linesOfPosed(q)
		for _, most := range []int{k % 4, 9, 1000} {
			outs, _ := impl.SlvOuts(q.p, q.top, most, impl.DskFuel)
			checkAsk(t, lines, question, most, plainTexts(q.top, outs)...)
			several += min(len(outs)/2, 1)
			ended[lastStatus(outs)]++
		}
	}
	if several < 300 || ended[0] < 100 || ended[impl.SlvNone] < 300 || ended[impl.SlvWrong] < 40 || ended[impl.SlvBig] < 5 || ended[impl.SlvAnswer] < 100 {
		t.Errorf("only %d have several outcomes, as last ones these: %v", several, ended)
	}
}

// TestAskIsAsPlainlyTold holds what is told against the plain readings of all chapters ahead, also of questions and lines that are none.
func TestAskIsAsPlainlyTold(t *testing.T) {
	t.Parallel()
	r := steady()
	told, faults := 0, 0
	for k, q := range append(somePosed(250), handFar()...) {
		// What does not end soon takes long by the plain reading.
		if _, steps := impl.SlvOuts(q.p, q.top, 12, impl.DskFuel); steps > 150 {
			continue
		}
		lines, question := linesOfPosed(q)
		if k%4 == 0 {
			question = bent(r, question)
		}
		if at := r.IntN(len(lines) + 1); k%5 == 0 && at < len(lines) {
			lines[at] = bent(r, lines[at])
		}
		most := []int{12, 1, 2, -1}[k%4]
		want := plainAsk(lines, question, most)
		checkAsk(t, lines, question, most, want...)
		if _, fault := plainPosed(lines, question); fault != nil {
			faults++
		} else {
			told += len(want)
		}
	}
	if told < 150 || faults < 60 {
		t.Errorf("only %d outcomes are told, %d are wrong", told, faults)
	}
}

// TestMostOfLines: below 0, 0, 1, as many as there are, and beyond.
func TestMostOfLines(t *testing.T) {
	lines := []string{"e(a)", "e(b)", "e(c)"}
	all := []string{"e(a)", "e(b)", "e(c)", "none"}
	for most, n := range map[int]int{math.MinInt: 0, -1000: 0, -1: 0, 0: 0, 1: 1, 2: 2, 3: 3, 4: 4, 5: 4, 1000: 4, impl.SlvFuel + 1: 4, math.MaxInt: 4} {
		checkAsk(t, lines, "e(X0)", most, all[:n]...)
	}
	for _, most := range []int{math.MinInt, -1, 0, 1, math.MaxInt} {
		checkAsk(t, append(lines, "e("), "e(X0)", most, "line 4")
		checkAsk(t, lines, "X0", most, "question")
	}
	// Of facts each answer takes three steps, so that a loop of them tells 333 answers within 1000.
	loop := []string{"n(a)", "n(X0) if n(X0)"}
	outs, _ := impl.SlvOuts(program(loop...), read("n(a)"), math.MaxInt, impl.DskFuel)
	got := impl.DskAsk(loop, "n(a)", math.MaxInt)
	if len(got) != len(outs) || len(got) < 20 || slices.ContainsFunc(got, func(line string) bool { return line != "n(a)" }) {
		t.Errorf("%d are told, want %d", len(got), len(outs))
	}
}

// countDown are lines of what counts down from a number: c(N) takes 4N + 3 steps, and one more by a goal more at its end, or 3N + 2, if that is wrong.
func countDown(base string, more ...string) []string {
	return append([]string{base, "c(X0) if 0 < X0 and X0 + -1 = X1 and c(X1)"}, more...)
}

// TestFuelOfLines: an outcome that comes by the last step is told, one that comes by one more is not; answers, and ends.
func TestFuelOfLines(t *testing.T) {
	for _, one := range []struct {
		lines    []string
		question string
		steps    int // by which the last outcome that is looked at comes
		want     []string
	}{
		{countDown("c(0)"), "c(249)", 999, []string{"c(249)"}},
		{countDown("c(0) if !"), "c(249)", 1000, []string{"c(249)"}},
		{countDown("c(0)", "d(X0) if c(X0)"), "d(249)", 1001, []string{"d(249)"}},
		{countDown("c(0) if !", "d(X0) if c(X0)"), "d(249)", 1002, []string{"d(249)"}},
		{countDown("c(0) if !", "d(X0) if c(X0)"), "d(248)", 999, []string{"d(248)", "none"}},
		{countDown("c(0) if !", "d(X0) if c(X0) and !"), "d(248)", 1000, []string{"d(248)", "none"}},
		{countDown("c(0) if !"), "c(249)", 1001, []string{"c(249)", "none"}},
		{countDown("c(0) if X1 < 1"), "c(332)", 998, []string{"wrong"}},
		{countDown("c(0) if 0 < 1 and 0 < 1 and X1 < 1"), "c(332)", 1000, []string{"wrong"}},
		{countDown("c(0) if 0 < 1 and 0 < 1 and 0 < 1 and X1 < 1"), "c(332)", 1001, []string{"wrong"}},
	} {
		p := program(one.lines...)
		outs, steps := impl.SlvOuts(p, read(one.question), len(one.want), impl.SlvFuel)
		if !slices.Equal(plainTexts(read(one.question), outs), one.want) || steps != one.steps {
			t.Fatalf("%s: %s in %d steps, meant are %d", one.question, showOuts(outs), steps, one.steps)
		}
		want := one.want
		if one.steps > 1000 {
			want = want[:len(want)-1]
		}
		checkAsk(t, one.lines, one.question, len(one.want), want...)
		checkAsk(t, one.lines, one.question, len(one.want)-1, want[:len(one.want)-1]...)
	}
}

// TestAskedByOtherNumbers: promise 94; by whatever numbers, in whatever order, up to the greatest.
func TestAskedByOtherNumbers(t *testing.T) {
	t.Parallel()
	otherwise := 0
	for k, q := range append(somePosed(150), handFar()...) {
		lines, question := linesOfPosed(q)
		want := impl.DskAsk(lines, question, 9)
		run := impl.DskRun(lines, question, []string{"ask", "hear 0", "run 0", "run 1", "run 2", "ask", "hear 0"})
		last := len(plainFree(q.top)) - 1
		for _, other := range [][]cell{
			impl.TrmShift(q.top, 1), impl.TrmShift(q.top, 7), impl.TrmShift(q.top, 1000+k), impl.TrmShift(q.top, impl.TrmVars-max(last, 0)),
			turned(q.top, func(v int) int { return last - v }), turned(q.top, func(v int) int { return impl.TrmVars - v }), turned(q.top, func(v int) int { return 5 + v*v*17 }),
		} {
			text := impl.TrmText(other)
			if got := impl.DskAsk(lines, text, 9); !slices.Equal(got, want) {
				t.Errorf("of %q of %v it tells %q, want %q", text, q, got, want)
			}
			if got := impl.DskRun(lines, text, []string{"ask", "hear 0", "run 0", "run 1", "run 2", "ask", "hear 0"}); !slices.Equal(got, run) {
				t.Errorf("of %q of %v it is %q, want %q", text, q, got, run)
			}
			if text != question {
				otherwise++
			}
		}
	}
	if otherwise < 500 {
		t.Errorf("only %d are numbered otherwise", otherwise)
	}
	facts := []string{"v(X0,f(X0,X1))", "v(a,X7)"}
	for _, question := range []string{"v(X0,X1)", "v(X1,X0)", "v(X99999,X99998)", "v(X99998,X99999)", "v(X0,X99999)", "v(X99999,X0)", "v(X12345,X7)"} {
		checkAsk(t, facts, question, 9, "v(X0,f(X0,X1))", "v(a,X0)", "none")
	}
	for _, question := range []string{"v(X0,X0)", "v(X1,X1)", "v(X99999,X99999)"} {
		checkAsk(t, facts, question, 9, "v(a,a)", "none")
	}
	for _, question := range []string{"v(X100000,X0)", "v(X0,X100000)", "v(X099999,X0)"} {
		checkAsk(t, facts, question, 9, "question")
	}
}

// TestNoQuestionByLines: promise 58, of texts that are no question's; by DskRun the same is told.
func TestNoQuestionByLines(t *testing.T) {
	for _, question := range noTexts() {
		for _, lines := range [][]string{nil, {"q(a)"}, deskProg()} {
			checkAsk(t, lines, question, 9, "question")
			for _, events := range [][]string{nil, {"ask"}, {"none"}, slices.Repeat([]string{"ask"}, impl.DskMaxLines)} {
				checkRun(t, lines, question, events, "question")
			}
		}
	}
	for _, question := range []string{"a", "zzzzzzzz", "q(X0)", "q(9999)", "q(X99999)", impl.TrmText(chain(impl.TrmMost)), impl.TrmText(wide(impl.TrmMost))} {
		checkAsk(t, nil, question, 9, "none")
	}
}

// TestWrongLinesOfAsk: promise 58, of lines that are no program's: the first, the last, and two of them; lines count from 1 on.
func TestWrongLinesOfAsk(t *testing.T) {
	good := deskProg()
	for _, bad := range []string{"", " ", "e(a,b) if", "X0", "at 3 x 1", "at 1 x", "e(a,b) ", "e(a,b)\n", "E(a)", "a if X8 = a", "a if b and c and d and e and f", "event 1"} {
		for k := range len(good) + 1 {
			lines := slices.Insert(slices.Clone(good), k, bad)
			checkAsk(t, lines, "q(X0)", 9, "line "+strconv.Itoa(k+1))
			checkRun(t, lines, "q(X0)", []string{"ask"}, "line "+strconv.Itoa(k+1))
			if k > 0 {
				checkAsk(t, append(lines, bad), "q(X0)", 9, "line "+strconv.Itoa(k+1))
				checkAsk(t, append([]string{bad}, lines...), "q(X0)", 9, "line 1")
			}
		}
	}
	for _, one := range []struct {
		lines []string
		wrong int
	}{
		{append(slices.Clone(good), "at 1 x 1"), 10},
		{[]string{"at 1 e 2", "at 2 e 2"}, 2},
		{append(toldNames(6), "at 1 z 1"), 7},
		{factLines(13), 13},
		{factLines(1000), 13},
		{append(toldNames(6), factLines(14)...), 19},
		{[]string{"a", "b if", "c if"}, 2},
	} {
		checkAsk(t, one.lines, "q(X0)", 9, "line "+strconv.Itoa(one.wrong))
	}
	checkAsk(t, append(toldNames(6), factLines(12)...), "f(b)", 9, "none")
}

// TestWhichFaultComesFirst: a program's line, the question, too many lines, and then lines that are none.
func TestWhichFaultComesFirst(t *testing.T) {
	right, wrong := deskProg(), append(deskProg(), "q(")
	many, none := slices.Repeat([]string{"ask"}, impl.DskMaxLines+1), slices.Repeat([]string{"halt"}, impl.DskMaxLines+1)
	for _, most := range []int{-1, 0, 1, 9} {
		checkAsk(t, wrong, "q(X0)", most, "line 10")
		checkAsk(t, wrong, "X0", most, "line 10")
		checkAsk(t, right, "X0", most, "question")
	}
	for _, one := range []struct {
		lines    []string
		question string
		events   []string
		want     []string
	}{
		{wrong, "X0", many, []string{"line 10"}},
		{wrong, "X0", none, []string{"line 10"}},
		{wrong, "q(X0)", many, []string{"line 10"}},
		{wrong, "q(X0)", none[:3], []string{"line 10"}},
		{wrong, "", nil, []string{"line 10"}},
		{factLines(200), "f(X0)", many, []string{"line 13"}},
		{right, "X0", many, []string{"question"}},
		{right, "X0", none, []string{"question"}},
		{right, "q(", none[:3], []string{"question"}},
		{right, "q(X0)", many, []string{"long"}},
		{right, "q(X0)", none, []string{"long"}},
		{right, "q(X0)", none[:2], []string{"event 1", "event 2", "node 0 questions 0", "node 1 questions 0", "node 2 questions 0", "on their way 0"}},
	} {
		checkRun(t, one.lines, one.question, one.events, one.want...)
	}
}
