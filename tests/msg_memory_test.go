package tests

import (
	"bytes"
	"reflect"
	"testing"

	"loop.example/catechist/impl"
)

// checkBytesMemory calls each function of the chapter on places, a message and bytes that have spare room.
func checkBytesMemory(t *testing.T, x []cell, m message, b []byte) {
	t.Helper()
	given := []any{x, m, b}
	checkMemory(t, "TrmBytes", given, func() []any { return []any{impl.TrmBytes(x)} })
	checkMemory(t, "TrmTake", given, func() []any { got, _ := impl.TrmTake(b); return []any{got} })
	checkMemory(t, "MsgSum", given, func() []any { impl.MsgSum(b); return nil })
	checkMemory(t, "MsgOk", given, func() []any { impl.MsgOk(m); return nil })
	checkMemory(t, "MsgBytes", given, func() []any { return []any{impl.MsgBytes(m)} })
	checkMemory(t, "MsgRead", given, func() []any { got, _ := impl.MsgRead(b); return []any{got} })
}

// TestBytesAreNewMemory: no answer shares memory with an argument, no two lists of one answer share any, and nothing is written into an argument.
func TestBytesAreNewMemory(t *testing.T) {
	for k, m := range append(someMessages(), littleMessages()...) {
		if k%5 > 0 {
			continue
		}
		mine := roomy(m)
		checkBytesMemory(t, mine.Top, mine, roomy(plainMsgBytes(m)))
		checkBytesMemory(t, mine.Out.Term, mine, roomy(plainTermBytes(m.Top)))
	}
	for _, x := range append(edgeTerms(), longest()) {
		checkBytesMemory(t, roomy(x), message{}, roomy(plainTermBytes(x)))
	}
}

// TestWrongBytesAreNewMemory: what is no term, no message, and no bytes of either is not written to.
func TestWrongBytesAreNewMemory(t *testing.T) {
	for _, x := range wrongPlaces() {
		if len(x) > 2*impl.TrmMost {
			continue
		}
		m := message{Kind: impl.MsgTell, Top: x, N: 1, Out: outcome{Status: impl.SlvAnswer, Term: x}}
		checkBytesMemory(t, roomy(x), roomy(m), roomy(plainPlacesBytes(x)))
		checkBytesMemory(t, nil, roomy(message{Kind: impl.MsgAsk, Top: x, N: 1}), roomy(inFrame(plainBody(m))))
	}
	r := steady()
	for range 300 {
		m := noSpareOf(littleMessages()[r.IntN(len(littleMessages()))])
		turnSome(r, reflect.ValueOf(&m).Elem())
		b := plainBody(m)
		b[r.IntN(len(b))] ^= byte(1 + r.IntN(255))
		checkBytesMemory(t, roomy(m.Top), roomy(m), roomy(inFrame(b)))
	}
}

// TestMessageOfSharedLists: a question and an answer that lie in one memory do not in what is read.
func TestMessageOfSharedLists(t *testing.T) {
	x := read("p(X0,g(X1))")
	m := message{Kind: impl.MsgTell, Top: x, N: 2, Out: outcome{Status: impl.SlvAnswer, Term: x}}
	checkMessage(t, m)
	b := impl.MsgBytes(m)
	checkMemory(t, "MsgRead", []any{b}, func() []any { got, _ := impl.MsgRead(b); return []any{got} })
}

// TestWhatIsReadStays: bytes that are written over behind a call are not seen in what was read from them.
func TestWhatIsReadStays(t *testing.T) {
	for _, m := range littleMessages() {
		b := impl.MsgBytes(m)
		got, _ := impl.MsgRead(b)
		top := impl.TrmBytes(m.Top)
		term, _ := impl.TrmTake(top)
		clear(b)
		clear(top)
		if !sameValue(got, m) || !sameValue(term, m.Top) {
			t.Errorf("%v is then %v, and %v", m, got, term)
		}
	}
}

// TestNoBytesAreKept: what is done to one answer is not seen in the next one.
func TestNoBytesAreKept(t *testing.T) {
	for _, m := range littleMessages() {
		b := impl.MsgBytes(m)
		want := bytes.Clone(b)
		got, _ := impl.MsgRead(want)
		term, _ := impl.TrmTake(plainTermBytes(m.Top))
		clear(b[:cap(b)])
		clear(got.Top)
		clear(got.Out.Term)
		clear(term)
		again, ok := impl.MsgRead(want)
		if next := impl.MsgBytes(m); !bytes.Equal(next, want) || !ok || !sameValue(again, m) {
			t.Errorf("%v: % x, and read %v", m, next, again)
		}
		if term, ok := impl.TrmTake(plainTermBytes(m.Top)); !ok || !sameValue(term, m.Top) {
			t.Errorf("%v is read as %v", m.Top, term)
		}
	}
}
