package tests

import (
	"strconv"
	"strings"
	"testing"

	"loop.example/catechist/impl"
)

// checkEvent holds what a line is against the plain reading, and says whether it is one.
func checkEvent(t *testing.T, line string) bool {
	t.Helper()
	e, ok := impl.DskEvent(line)
	want, is := plainEvent(line)
	if ok != is || e != want {
		t.Errorf("%.80q is %v, %t, want %v, %t", line, e, ok, want, is)
	}
	return ok
}

func TestEventsByHand(t *testing.T) {
	for line, want := range map[string]event{
		"ask":                    {Kind: impl.EvAsk},
		"run 0":                  {Kind: impl.EvRun},
		"run 2":                  {Kind: impl.EvRun, At: 2},
		"run 3":                  {Kind: impl.EvRun, At: 3},
		"hear 0":                 {Kind: impl.EvHear},
		"hear 159":               {Kind: impl.EvHear, At: 159},
		"lose 10":                {Kind: impl.EvLose, At: 10},
		"twice 9999":             {Kind: impl.EvTwice, At: 9999},
		"bend 1 20 255":          {Kind: impl.EvBend, At: 1, Pos: 20, V: 255},
		"bend 0 0 0":             {Kind: impl.EvBend},
		"bend 0 0 256":           {Kind: impl.EvBend, V: 256},
		"bend 12345 54321 99999": {Kind: impl.EvBend, At: 12345, Pos: 54321, V: 99999},
		"fall 1":                 {Kind: impl.EvFall, At: 1},
		"fall 99999":             {Kind: impl.EvFall, At: 99999},
		"rise 1":                 {Kind: impl.EvRise, At: 1},
	} {
		if e, ok := impl.DskEvent(line); !ok || e != want {
			t.Errorf("%q is %v, %t, want %v", line, e, ok, want)
		}
	}
	for _, line := range someLines() {
		if !checkEvent(t, line) {
			t.Errorf("%q is none", line)
		}
	}
}

// TestNoEvent: promise 56, of lines that are none, each for another cause; and of these there is nothing.
func TestNoEvent(t *testing.T) {
	for _, line := range noEvents() {
		if e, ok := impl.DskEvent(line); ok || e != (event{}) {
			t.Errorf("%.80q is %v, %t", line, e, ok)
		}
	}
}

// TestNumbersOfLines: all numbers of one to five digits, and those behind them; and all of these with noughts ahead.
func TestNumbersOfLines(t *testing.T) {
	t.Parallel()
	for n := range 110000 {
		digits := strconv.Itoa(n)
		is := n <= 99999
		if e, ok := impl.DskEvent("lose " + digits); ok != is || is && e != (event{Kind: impl.EvLose, At: n}) {
			t.Fatalf("lose %d is %v, %t", n, e, ok)
		}
		if e, ok := impl.DskEvent("bend " + digits + " 7 " + digits); ok != is || is && e != (event{Kind: impl.EvBend, At: n, Pos: 7, V: n}) {
			t.Fatalf("bend %d 7 %d is %v, %t", n, n, e, ok)
		}
		if e, ok := impl.DskEvent("bend 0 " + digits + " 1"); ok != is || is && e != (event{Kind: impl.EvBend, Pos: n, V: 1}) {
			t.Fatalf("bend 0 %d 1 is %v, %t", n, e, ok)
		}
		for _, other := range []string{"0" + digits, "-" + digits, "+" + digits, digits + "."} {
			if e, ok := impl.DskEvent("run " + other); ok || e != (event{}) {
				t.Fatalf("run %s is %v, %t", other, e, ok)
			}
		}
	}
}

// TestEachLineOfFewWords: promise 56, of all short lines of a few words.
func TestEachLineOfFewWords(t *testing.T) {
	t.Parallel()
	words := append(eventWords(), "0", "99999", "07", "100000", "-1", "")
	lines := map[int]int{}
	eachText(words, 5, func(line string) {
		if checkEvent(t, line) {
			e, _ := impl.DskEvent(line)
			lines[e.Kind]++
		}
	})
	for kind := impl.EvAsk; kind <= impl.EvRise; kind++ {
		want := 2
		switch kind {
		case impl.EvAsk:
			want = 1
		case impl.EvBend:
			want = 8
		}
		if lines[kind] != want {
			t.Errorf("%d lines are of kind %d, want %d", lines[kind], kind, want)
		}
	}
}

// TestTurnedLines: promise 56, of lines with each byte turned to each other one, gone, or one more there.
func TestTurnedLines(t *testing.T) {
	t.Parallel()
	lines, none := 0, 0
	count := func(line string) {
		if checkEvent(t, line) {
			lines++
		} else {
			none++
		}
	}
	for _, line := range []string{"ask", "run 0", "hear 12", "lose 99999", "twice 100", "bend 1 20 255", "bend 99999 99999 99999", "bend 0 0 0", "fall 2", "rise 90909"} {
		for k := range len(line) + 1 {
			count(line[:k])
			for b := range 256 {
				more := string([]byte{byte(b)})
				count(line[:k] + more + line[k:])
				if k < len(line) {
					count(line[:k] + more + line[k+1:])
				}
			}
			if k < len(line) {
				count(line[:k] + line[k+1:])
			}
		}
	}
	if lines < 500 || none < 10000 {
		t.Errorf("%d are lines, %d are none", lines, none)
	}
}

// TestBentLines: promise 56, of lines with a word gone, moved, once more there, or another one.
func TestBentLines(t *testing.T) {
	t.Parallel()
	r, lines, none := steady(), 0, 0
	all := someLines()
	for range 20000 {
		line := bent(r, all[r.IntN(len(all))])
		if r.IntN(4) == 0 {
			line = bent(r, line)
		}
		if checkEvent(t, line) {
			lines++
		} else {
			none++
		}
	}
	if lines < 500 || none < 5000 {
		t.Errorf("%d are lines, %d are none", lines, none)
	}
}

// TestFourNumbersMore: promise 56, its first half: of lines that are ones, and of such as are none.
func TestFourNumbersMore(t *testing.T) {
	for _, line := range append(someLines(), noEvents()...) {
		for _, more := range []string{" 0 0 0 0", " 1 2 3 4", " 99999 99999 99999 99999", " 0 1 0 255"} {
			if e, ok := impl.DskEvent(line + more); ok || e != (event{}) {
				t.Errorf("%.80q is %v, %t", line+more, e, ok)
			}
		}
	}
}

// TestWhatALineSaysCanHappen: promise 56, its second half: its kind is one of those that happen, a world stays one behind it, and there is a world that turns by it, if its numbers are of something that is there.
func TestWhatALineSaysCanHappen(t *testing.T) {
	t.Parallel()
	down := richWorld()
	down.Nodes[0] = nodeState{}
	turned := map[int]int{}
	for _, line := range append(someLines(), "run 2", "rise 2", "fall 2", "bend 2 5 7") {
		e, ok := impl.DskEvent(line)
		if !ok || e.Kind < impl.EvAsk || e.Kind > impl.EvRise || e.At < 0 || e.Pos < 0 || e.V < 0 {
			t.Errorf("%q is %v, %t", line, e, ok)
		}
		for _, w := range []world{richWorld(), down} {
			then := impl.WldStep(w, e)
			if !impl.WldOk(then) {
				t.Errorf("behind %q it is %s", line, brief(then))
			}
			if !sameValue(then, w) {
				turned[e.Kind]++
			}
		}
	}
	for kind := impl.EvAsk; kind <= impl.EvRise; kind++ {
		if turned[kind] == 0 {
			t.Errorf("no line of %q turns something", eventWords()[kind])
		}
	}
}

// TestLongestLines: the longest line that is one has 22 bytes, so that a line of 40 bytes, and one of a byte more, is none, whatever it begins with.
func TestLongestLines(t *testing.T) {
	longest := "bend 99999 99999 99999"
	if e, ok := impl.DskEvent(longest); !ok || e != (event{Kind: impl.EvBend, At: 99999, Pos: 99999, V: 99999}) {
		t.Errorf("%q is %v, %t", longest, e, ok)
	}
	for size := len(longest) + 1; size < 200; size++ {
		for _, line := range []string{lineOfBytes(longest, " 9", size), lineOfBytes(longest, "9", size), lineOfBytes(longest, " ", size), strings.Repeat(" ", size-len(longest)) + longest, "bend " + strings.Repeat("0", size-len(longest)) + longest[5:]} {
			if e, ok := impl.DskEvent(line); len(line) != size || ok || e != (event{}) {
				t.Errorf("%q, of %d bytes, is %v, %t", line, len(line), e, ok)
			}
		}
	}
}
