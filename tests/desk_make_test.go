package tests

import (
	"math/rand/v2"
	"slices"
	"strconv"
	"strings"
	"testing"

	"loop.example/catechist/impl"
)

// eventWords are the words with which lines begin, by the kinds of what happens.
func eventWords() []string {
	return []string{"halt", "ask", "run", "hear", "lose", "twice", "bend", "fall", "rise"}
}

// lineOf is the line that says what happens; of what has no line one that is none.
func lineOf(e event) string {
	words := []string{"halt"}
	if e.Kind > 0 && e.Kind < len(eventWords()) {
		words[0] = eventWords()[e.Kind]
	}
	if e.Kind != impl.EvAsk {
		words = append(words, strconv.Itoa(e.At))
	}
	if e.Kind == impl.EvBend {
		words = append(words, strconv.Itoa(e.Pos), strconv.Itoa(e.V))
	}
	return strings.Join(words, " ")
}

func linesOf(all []event) []string {
	var lines []string
	for _, e := range all {
		lines = append(lines, lineOf(e))
	}
	return lines
}

// lineNumbers are numbers of one to five digits.
func lineNumbers() []int {
	return []int{0, 1, 9, 10, 11, 99, 100, 101, 255, 256, 300, 999, 1000, 9999, 10000, 10001, 65536, 99998, 99999}
}

// someLines are lines that are each one thing, with all numbers of those in each place.
func someLines() []string {
	lines := []string{"ask"}
	for _, n := range lineNumbers() {
		s := strconv.Itoa(n)
		for _, word := range []string{"run", "hear", "lose", "twice", "fall", "rise"} {
			lines = append(lines, word+" "+s)
		}
		lines = append(lines, "bend "+s+" 0 1", "bend 0 "+s+" 1", "bend 0 0 "+s, "bend "+s+" "+s+" "+s)
	}
	return lines
}

// lineOfBytes is a line that begins so, and has so many bytes in all by what is put behind it.
func lineOfBytes(front, more string, size int) string {
	return front + strings.Repeat(more, size)[:size-len(front)]
}

// noEvents are lines that are none, each for another cause.
func noEvents() []string {
	all := []string{
		"", " ", "  ", "\t", "\n", "\x00", "halt", "as", "ask ", " ask", "  ask", "ask  ", "ask\n", "\task", "ask\t", "ask\x00", "ask ask", "ask 0", "ask 1 2 3", "ask a", "Ask", "ASK", "aask", "askk", "a sk", "ask,", "\u0430sk",
		"none", "too big", "stop", "0", "1 run", "0 0", "run,0", "run0", "run:0", "run(0)", "evask", "event 1", "runs 0", "ru 0", "r 0", "hea 0", "hears 0", "loses 0", "twic 0", "ben 0 0 1", "bends 0 0 1", "falls 0", "rises 0",
	}
	for _, word := range eventWords()[2:] {
		numbers := " 0"
		if word == "bend" {
			numbers = " 0 0 1"
		}
		upper := strings.ToUpper(word)
		all = append(all, word, word+" ", word+"  ", " "+word+numbers, word+" "+numbers, word+numbers+" ", word+numbers+"  ", word+numbers+"\n", word+numbers+"\r", word+numbers+"\t", "\t"+word+numbers, word+"\t"+numbers[1:], word+"\u00a0"+numbers[1:],
			word+numbers[1:], word+numbers+" 0", word+numbers+" a", word+numbers+",", word+numbers+"\x00", upper+numbers, upper[:1]+word[1:]+numbers, word[:1]+upper[1:]+numbers, word+numbers+numbers, word+numbers+" "+word+numbers)
		for _, bad := range noNumbers() {
			switch word {
			case "bend":
				all = append(all, "bend "+bad+" 0 1", "bend 0 "+bad+" 1", "bend 0 0 "+bad, "bend "+bad+" "+bad+" "+bad)
			default:
				all = append(all, word+" "+bad)
			}
		}
	}
	all = append(all, "bend 0", "bend 0 ", "bend 0 0", "bend 0 0 ", "bend 0 0 1 2", "bend 0  1", "bend  0 0 1", "bend 0  0 1", "bend 0 0  1", "bend 0,0,1", "bend 0\t0\t1", "bend 0 0\t1")
	for _, size := range []int{39, 40, 41, 42, 100, 1000000} {
		all = append(all, lineOfBytes("run 1", "0", size), lineOfBytes("run 0", " ", size), lineOfBytes("run", " 0", size), lineOfBytes("ask", " ", size), lineOfBytes("bend 0 0 1", " 1", size), lineOfBytes("", "ask ", size), lineOfBytes("", "ask", size), lineOfBytes("bend 0 0 1", "0", size),
			strings.Repeat(" ", size-5)+"run 0", strings.Repeat(" ", size-3)+"ask", "run "+strings.Repeat("0", size-5)+"1", "hear "+strings.Repeat("9", size-5), "run "+strings.Repeat(" ", size-5)+"1", "bend 1 2 "+strings.Repeat("0", size-10)+"3")
	}
	return all
}

// noNumbers are words that are no number of a line.
func noNumbers() []string {
	return []string{
		"", "-1", "-0", "+1", "+0", "-", "+", "00", "01", "007", "00000", "000001", "012345", "100000", "100001", "999999", "123456", "1000000", "0000001", "4294967296", "18446744073709551616", "9223372036854775808", "99999999999999999999",
		"a", "X0", "1a", "a1", "0x1", "0b1", "0o7", "1.0", "1.", ".1", "1e0", "1e3", "1_0", "1,0", "1'0", "0 ", "\u0661", "\u00b2", "\uff11", "1\x00", "\xff", "!", "at", "one", "ask", "NaN", "nil",
	}
}

// linesOfPosed is a question of a program as they are written.
func linesOfPosed(q posed) ([]string, string) { return plainLines(q.p), impl.TrmText(q.top) }

// deskProg are the lines of the document's example.
func deskProg() []string {
	return []string{"at 1 e 2", "at 2 p 2", "e(a,b)", "e(b,c)", "e(a,c)", "p(X0,X1) if e(X0,X1)", "p(X0,X2) if e(X0,X1) and p(X1,X2)", "q(X0) if p(a,X0) and !", "q(z)"}
}

// noTexts are texts that are no question's, each for another cause: no term, a variable, a number, and what is too big.
func noTexts() []string {
	deep := func(n int) string { return strings.Repeat("f(", n-1) + "a" + strings.Repeat(")", n-1) }
	return []string{
		"", " ", "X0", "X1", "X4", "X99999", "X100000", "0", "7", "-7", "9999", "10000", "q(X0) ", " q(X0)", "q( X0)", "q (X0)", "q(X0)\n", "q()", "q(", "q(X0", "q(X0))", "q(X0,)", "q(X00)", "q(X01)", "q(X100000)", "q(X-1)", "q(a,b,c,d)", "Q(X0)", "q(A)", "q(10000)", "q(-0)",
		"abcdefghi", "abcdefghi(X0)", "q(X0).", "q(X0) if a", "q(X0) and q(X1)", "X0 = a", "!", "a < b", "?", "q(X0)?", "\x00", "\xff", "\u00e4", deep(impl.TrmMost + 1), "f(" + deep(20) + "," + deep(20) + ")", strings.Repeat("f(", 1000000), strings.Repeat("a", 1000000),
	}
}

// calmLines are the lines of about so many calm rounds, in each of which four messages are heard ahead of all going on and four behind it, with so many things of harm among them.
func calmLines(r *rand.Rand, w world, rounds int, harms int) []string {
	hear := slices.Repeat([]string{"hear 0"}, 4)
	round := slices.Concat([]string{"ask"}, hear, []string{"run 0", "run 1", "run 2"}, hear)
	lines := slices.Repeat(round, rounds)
	for range harms {
		lines = slices.Insert(lines, r.IntN(len(lines)+1), lineOf(harm(r, w)))
	}
	return lines[:min(len(lines), impl.DskMaxLines)]
}

// TestLinesAreMadeAsMeant: what is to be a line is one, and what is to be none is none, by the plain reading.
func TestLinesAreMadeAsMeant(t *testing.T) {
	kinds := map[int]int{}
	for _, line := range someLines() {
		e, ok := plainEvent(line)
		if kinds[e.Kind]++; !ok || lineOf(e) != line {
			t.Errorf("%q is meant to be a line", line)
		}
	}
	for kind := impl.EvAsk; kind <= impl.EvRise; kind++ {
		if kinds[kind] == 0 || kind != impl.EvAsk && kinds[kind] < len(lineNumbers()) {
			t.Errorf("only %d lines are of kind %d", kinds[kind], kind)
		}
	}
	for _, line := range noEvents() {
		if _, ok := plainEvent(line); ok {
			t.Errorf("%.60q is meant to be none", line)
		}
	}
	sizes := map[int]int{}
	for _, line := range noEvents() {
		sizes[len(line)]++
	}
	if sizes[39] < 10 || sizes[40] < 10 || sizes[41] < 10 || sizes[1000000] < 10 {
		t.Errorf("only so many lines are of 39, 40, 41 and very many bytes: %d, %d, %d, %d", sizes[39], sizes[40], sizes[41], sizes[1000000])
	}
	for _, text := range noTexts() {
		if x, ok := impl.TrmRead(text); ok && plainQuestion(plainCanon(x)) {
			t.Errorf("%.60q is meant to be no question", text)
		}
	}
}
