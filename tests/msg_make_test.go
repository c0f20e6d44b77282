package tests

import (
	"encoding/hex"
	"math/rand/v2"
	"slices"
	"strings"
	"testing"

	"loop.example/catechist/impl"
)

type message = impl.MsgMsg

func askOf(from int, top string, n int) message {
	return message{Kind: impl.MsgAsk, From: from, Top: read(top), N: n}
}

func tellOf(top string, n int, o outcome) message {
	return message{Kind: impl.MsgTell, Top: read(top), N: n, Out: o}
}

// fromHex is bytes, written by twos of sixteens.
func fromHex(s string) []byte {
	b, err := hex.DecodeString(strings.ReplaceAll(s, " ", ""))
	if err != nil {
		panic(err)
	}
	return b
}

// longest is a question of as many bytes as one can have.
func longest() []cell {
	t := slices.Repeat(places(name("abcdefgh", 1)), impl.TrmMost-1)
	return append(t, name("zzzzzzzz", 0))
}

// edgeQuestions are questions, ordinary ones and such as are just within a bound.
func edgeQuestions() [][]cell {
	all := [][]cell{chain(impl.TrmMost), plainCanon(wide(impl.TrmMost)), manyVars(), longest()}
	for _, text := range []string{"z", "p(X0)", "e(a,X0)", "p(X0,X1,X0)", "abcdefgh(X0)", "f(9999,-9999)", "p(g(X0,-1),X1)", "p(X0,X0)", "zzzzzzzz"} {
		all = append(all, read(text))
	}
	return all
}

// endOuts are the outcomes that are no answer.
func endOuts() []outcome {
	return []outcome{{Status: impl.SlvNone}, {Status: impl.SlvBig}, {Status: impl.SlvWrong}}
}

// filled is a term with another one in the place of each variable.
func filled(t []cell, to ...cell) []cell {
	var u []cell
	for _, c := range t {
		if c.Kind == impl.TrmVar {
			u = append(u, to...)
		} else {
			u = append(u, c)
		}
	}
	return u
}

// answersTo are some answers of a question: itself, what it is with other things at its variables, and a variable alone.
func answersTo(top []cell) []outcome {
	var all []outcome
	for _, term := range [][]cell{
		top,
		plainCanon(turned(top, func(int) int { return 0 })),
		filled(top, number(-impl.TrmNums)),
		plainCanon(filled(top, name("g", 2), variable(3), variable(5))),
		places(variable(0)),
	} {
		if o := (outcome{Status: impl.SlvAnswer, Term: term}); plainOutOk(top, o) {
			all = append(all, o)
		}
	}
	return all
}

func edgeNumbers() []int {
	return []int{1, 2, 255, 256, 257, impl.SlvFuel - 1, impl.SlvFuel}
}

// messagesOf are messages about a question: asked from everywhere, and told answers and ends.
func messagesOf(top []cell, numbers []int) []message {
	var all []message
	for _, n := range numbers {
		for from := range impl.MsgClient + 1 {
			all = append(all, message{Kind: impl.MsgAsk, From: from, Top: top, N: n})
		}
		for _, o := range append(endOuts(), answersTo(top)...) {
			all = append(all, message{Kind: impl.MsgTell, Top: top, N: n, Out: o})
		}
	}
	return all
}

func edgeMessages() []message {
	var all []message
	for _, top := range edgeQuestions() {
		all = append(all, messagesOf(top, edgeNumbers())...)
	}
	return all
}

// madeQuestion is a question of at most so many places.
func madeQuestion(r *rand.Rand, most int) []cell {
	for {
		if t := madeTerm(r, most); t[0].Kind == impl.TrmFun {
			return plainCanon(t)
		}
	}
}

// someMessages are those at the edges, what is asked and told of posed questions, and such as are made of any terms.
func someMessages() []message {
	r, all := steady(), edgeMessages()
	for _, q := range somePosed(150) {
		outs, _ := impl.SlvOuts(q.p, q.top, 9, 100)
		for k, o := range outs {
			all = append(all, message{Kind: impl.MsgAsk, From: k % (impl.MsgClient + 1), Top: q.top, N: k + 1}, message{Kind: impl.MsgTell, Top: q.top, N: k + 1, Out: o})
		}
	}
	for range 150 {
		all = append(all, messagesOf(madeQuestion(r, 1+r.IntN(impl.TrmMost)), []int{1 + r.IntN(impl.SlvFuel)})...)
	}
	return all
}

// littleMessages are one of each kind, of few bytes.
func littleMessages() []message {
	all := []message{askOf(0, "z", 1), askOf(impl.MsgClient, "p(X0)", impl.SlvFuel), tellOf("e(a,X0)", 1, answer("e(a,b)")), tellOf("p(X0)", 300, answer("p(f(X0,X1))"))}
	for _, o := range endOuts() {
		all = append(all, tellOf("p(X0,-7)", 2, o))
	}
	return all
}

// otherBytes are some that a byte may be turned to.
func otherBytes(b byte) []byte {
	return slices.DeleteFunc([]byte{b ^ 1, b + 1, b - 1, b ^ 128, ^b, 0, 255, 1, 2, 3}, func(o byte) bool { return o == b })
}

// allOthers are all that a byte may be turned to.
func allOthers(b byte) []byte {
	var all []byte
	for k := 1; k < 256; k++ {
		all = append(all, b+byte(k))
	}
	return all
}

// eachTurned tells bytes with each of them in its turn another one: all others of few bytes, some of many.
func eachTurned(b []byte, tell func(k int, y []byte)) {
	others := allOthers
	if len(b) > 80 {
		others = otherBytes
	}
	y := slices.Clone(b)
	for k := range b {
		for _, other := range others(b[k]) {
			y[k] = other
			tell(k, y)
		}
		y[k] = b[k]
	}
}

// eachPart tells bytes with one more, at every place, and with one or more of them gone.
func eachPart(b []byte, tell func(what string, y []byte)) {
	for _, more := range []byte{0, 1, 2, 3, 97, 134, 160, 255} {
		for k := range len(b) + 1 {
			tell("one byte more", slices.Insert(slices.Clone(b), k, more))
		}
	}
	for k := range 256 {
		tell("one byte more at the end", append(slices.Clone(b), byte(k)))
		tell("one byte more at the front", append([]byte{byte(k)}, b...))
	}
	for k := range b {
		tell("without one byte", slices.Delete(slices.Clone(b), k, k+1))
		tell("its front", b[:k])
		tell("its end", b[k+1:])
	}
	tell("once more", slices.Concat(b, b))
}

func TestMadeMessagesAreOfAllSorts(t *testing.T) {
	sorts := map[[3]int]int{}
	great := 0
	for _, m := range someMessages() {
		if !plainMsgOk(m) {
			t.Fatalf("%v is not ok", m)
		}
		sorts[[3]int{m.Kind, m.From, m.Out.Status}]++
		great = max(great, len(plainMsgBytes(m)))
	}
	if len(sorts) != impl.MsgClient+1+4 {
		t.Errorf("they are of the sorts %v", sorts)
	}
	for sort, n := range sorts {
		if n < 100 {
			t.Errorf("only %d are %v", n, sort)
		}
	}
	// A frame's length and sum, what is ahead of the terms, and both terms of the greatest names.
	if great != 4+6+2*(1+impl.TrmMost*(5+impl.TrmName)) || great > impl.MsgMax+4 {
		t.Errorf("the greatest has %d bytes", great)
	}
}
