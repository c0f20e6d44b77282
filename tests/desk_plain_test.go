package tests

import (
	"regexp"
	"strconv"
	"strings"

	"loop.example/catechist/impl"
)

// What the chapter on lines says, plainly: a line is held against a pattern, and a run is done thing by thing, by the plain readings of the chapters ahead.

const plainDigits = `(0|[1-9][0-9]{0,4})`

var (
	askLine  = regexp.MustCompile(`\Aask\z`)
	atLine   = regexp.MustCompile(`\A(run|hear|lose|twice|fall|rise) ` + plainDigits + `\z`)
	bendLine = regexp.MustCompile(`\Abend ` + plainDigits + ` ` + plainDigits + ` ` + plainDigits + `\z`)
)

// kindOf is what a word says that happens, of such as have one number behind them.
func kindOf(word string) int {
	return map[string]int{"run": impl.EvRun, "hear": impl.EvHear, "lose": impl.EvLose, "twice": impl.EvTwice, "fall": impl.EvFall, "rise": impl.EvRise}[word]
}

func plainEvent(line string) (event, bool) {
	if len(line) > 40 {
		return event{}, false
	}
	number := func(digits string) int { n, _ := strconv.Atoi(digits); return n }
	if askLine.MatchString(line) {
		return event{Kind: impl.EvAsk}, true
	}
	if m := atLine.FindStringSubmatch(line); m != nil {
		return event{Kind: kindOf(m[1]), At: number(m[2])}, true
	}
	if m := bendLine.FindStringSubmatch(line); m != nil {
		return event{Kind: impl.EvBend, At: number(m[1]), Pos: number(m[2]), V: number(m[3])}, true
	}
	return event{}, false
}

// plainPosed is the one line of what is wrong with a program's lines and a question; none, if they are right, and then they are the program and the question.
func plainPosed(lines []string, question string) (posed, []string) {
	if wrong := plainWrong(lines); wrong > 0 {
		return posed{}, []string{"line " + strconv.Itoa(wrong)}
	}
	x, ok := impl.TrmRead(question)
	if !ok || !plainQuestion(plainCanon(x)) {
		return posed{}, []string{"question"}
	}
	p, _ := impl.PrgParse(lines)
	return posed{p, plainCanon(x)}, nil
}

// plainTexts is each outcome as a line.
func plainTexts(top []cell, outs []outcome) []string {
	var all []string
	for _, o := range outs {
		all = append(all, plainOutText(top, o))
	}
	return all
}

func plainAsk(lines []string, question string, most int) []string {
	q, fault := plainPosed(lines, question)
	if fault != nil {
		return fault
	}
	outs, _ := plainOuts(q.p, q.top, most, 1000)
	return plainTexts(q.top, outs)
}

func plainBoard(w world) []string {
	if !plainWorldOk(w) {
		return nil
	}
	var all []string
	for k, n := range w.Nodes {
		line := "node " + strconv.Itoa(k) + " questions " + strconv.Itoa(len(n.Works))
		if !n.Up {
			line = "node " + strconv.Itoa(k) + " down"
		}
		all = append(all, line)
	}
	all = append(all, "on their way "+strconv.Itoa(len(w.Net)))
	return append(all, plainTexts(w.Top, w.Outs)...)
}

// runBy is what a run by lines tells, with each thing that happens done by that step.
func runBy(q posed, events []string, step func(world, event) world) []string {
	var none []string
	w := impl.WldNew(q.p, q.top)
	for k, line := range events {
		if e, ok := plainEvent(line); ok {
			w = step(w, e)
		} else {
			none = append(none, "event "+strconv.Itoa(k+1))
		}
	}
	return append(none, plainBoard(w)...)
}

func plainDeskRun(lines []string, question string, events []string) []string {
	q, fault := plainPosed(lines, question)
	switch {
	case fault != nil:
		return fault
	case len(events) > 150:
		return []string{"long"}
	}
	return runBy(q, events, plainWldStep)
}

// showLines is lines in one text, each in its own quotes.
func showLines(lines []string) string {
	var all []string
	for _, line := range lines {
		all = append(all, strconv.Quote(line[:min(len(line), 80)]))
	}
	return strings.Join(all, " ")
}
