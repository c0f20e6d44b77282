package tests

import (
	"bytes"
	"fmt"
	"reflect"
	"slices"
	"testing"

	"loop.example/catechist/impl"
)

// checkMessageOf holds what bytes are read as against the plain reading; with promise 41, of what is read.
func checkMessageOf(t *testing.T, b []byte) (message, bool) {
	t.Helper()
	want, ok := plainMsgOf(b)
	got, read := impl.MsgRead(b)
	if read != ok || !sameValue(got, want) {
		t.Fatalf("% .300x is read as %.300v, %t, want %.300v, %t", b, got, read, want, ok)
	}
	if read && (!impl.MsgOk(got) || !bytes.Equal(impl.MsgBytes(got), b)) {
		t.Fatalf("% .300x is read as %v, ok %t, which has the bytes % .300x", b, got, impl.MsgOk(got), impl.MsgBytes(got))
	}
	return got, read
}

// checkNotRead looks that bytes are no message's.
func checkNotRead(t *testing.T, what string, b []byte) {
	t.Helper()
	if got, ok := impl.MsgRead(b); ok || !isNothing(got) {
		t.Fatalf("%s: % .300x is read as %v, %t", what, b, got, ok)
	}
}

func TestMessagesByHand(t *testing.T) {
	for _, one := range []struct {
		m    message
		want string
	}{
		{askOf(0, "z", 1), "00 0d 01 00 00 01 86 a1 01 03 01 86 a0 01 7a 10 10"},
		{askOf(3, "p(X0)", 12000), "00 11 01 03 00 01 b5 80 02 03 01 86 a1 01 70 01 01 86 a0 df 7c"},
		{tellOf("z", 1, outcome{Status: impl.SlvNone}), "00 0d 02 00 03 01 86 a1 01 03 01 86 a0 01 7a f8 b1"},
		{tellOf("z", 1, outcome{Status: impl.SlvBig}), "00 0d 02 00 04 01 86 a1 01 03 01 86 a0 01 7a df 1a"},
		{tellOf("z", 2, outcome{Status: impl.SlvWrong}), "00 0d 02 00 05 01 86 a2 01 03 01 86 a0 01 7a fb c9"},
		{tellOf("e(a,X0)", 1, answer("e(a,b)")), "00 2a 02 00 02 01 86 a1 03 03 01 86 a2 01 65 03 01 86 a0 01 61 01 01 86 a0 03 03 01 86 a2 01 65 03 01 86 a0 01 61 03 01 86 a0 01 62 b7 d1"},
	} {
		if got := impl.MsgBytes(one.m); !bytes.Equal(got, fromHex(one.want)) {
			t.Errorf("%v has the bytes % x, want %s", one.m, got, one.want)
		}
		if got, ok := impl.MsgRead(fromHex(one.want)); !ok || !sameValue(got, one.m) {
			t.Errorf("%s is read as %v, %t", one.want, got, ok)
		}
	}
}

// TestTurnedMessageIsNotRead: promise 40, of each byte in its turn.
func TestTurnedMessageIsNotRead(t *testing.T) {
	t.Parallel()
	all := littleMessages()
	for k, m := range someMessages() {
		if k%25 == 0 {
			all = append(all, m)
		}
	}
	great := message{Kind: impl.MsgTell, Top: longest(), N: impl.SlvFuel, Out: outcome{Status: impl.SlvAnswer, Term: longest()}}
	for _, m := range append(all, great) {
		b := impl.MsgBytes(m)
		if got, ok := impl.MsgRead(b); !ok || !sameValue(got, m) {
			t.Fatalf("%v is read as %v, %t", m, got, ok)
		}
		eachTurned(b, func(k int, y []byte) {
			if got, ok := impl.MsgRead(y); ok || got.Kind != 0 || len(got.Top) != 0 {
				t.Fatalf("%v with byte %d turned to %d is read as %v", m, k, y[k], got)
			}
		})
	}
}

// TestMessageMoreOrLess: promise 40, of bytes that are there once more, or gone.
func TestMessageMoreOrLess(t *testing.T) {
	great := message{Kind: impl.MsgTell, Top: longest(), N: 1, Out: outcome{Status: impl.SlvAnswer, Term: longest()}}
	for _, m := range append(littleMessages(), great) {
		b := impl.MsgBytes(m)
		eachPart(b, func(what string, y []byte) {
			if got, ok := impl.MsgRead(y); ok || got.Kind != 0 || len(got.Top) != 0 {
				t.Fatalf("%s of %v is read as %v", what, m, got)
			}
		})
		checkNotRead(t, "without the last one", b[:len(b)-1])
		checkNotRead(t, "without the first one", b[1:])
		checkNotRead(t, "without its frame", b[2:len(b)-2])
		checkNotRead(t, "within another frame", inFrame(b))
	}
	for k, b := range manyBytes() {
		checkNotRead(t, fmt.Sprintf("very many, %d", k), b)
	}
	for n := range 9 {
		checkNotRead(t, "very few", make([]byte, n))
		checkNotRead(t, "a frame of very few", inFrame(make([]byte, n)))
	}
}

// TestFrameOfAnotherLength: with a sum that fits.
func TestFrameOfAnotherLength(t *testing.T) {
	for _, m := range littleMessages() {
		body := plainBody(m)
		for n := range 1200 {
			b := withSum(append(twoBytes(n), body...))
			if n == len(body) {
				if got, ok := checkMessageOf(t, b); !ok || !sameValue(got, m) {
					t.Fatalf("%v is read as %v, %t", m, got, ok)
				}
				continue
			}
			checkNotRead(t, "another length", b)
		}
		for n := range body {
			checkNotRead(t, "another length, and so many bytes", withSum(append(twoBytes(n), body[:n]...)))
			checkNotRead(t, "fewer bytes", withSum(append(twoBytes(len(body)), body[:n]...)))
		}
		low := []byte{byte(len(body)), byte(len(body) >> 8)}
		checkNotRead(t, "the lower byte first", withSum(append(low, body...)))
		checkNotRead(t, "a length of one byte", withSum(append([]byte{byte(len(body))}, body...)))
		checkNotRead(t, "a length of three bytes", withSum(append([]byte{0, 0, byte(len(body))}, body...)))
		checkNotRead(t, "no length", withSum(body))
	}
	for _, m := range littleMessages() {
		body := plainBody(m)
		for _, n := range []int{1, 2, 3, 4, 100, impl.MsgMax, 65536 - len(body) - 1} {
			// The length counts what stands behind the sum, which fits what is ahead of it.
			front := withSum(append(twoBytes(len(body)+n), body...))
			checkNotRead(t, "bytes behind the sum", slices.Concat(front, make([]byte, n)))
		}
		// So many more that a length of two bytes is the same one.
		checkNotRead(t, "a length that has gone round", slices.Concat(inFrame(body), make([]byte, 65536)))
	}
	// As long as two bytes can say, and longer.
	for _, n := range []int{impl.MsgMax, impl.MsgMax + 1, 65535, 65536, 65536 + len(plainBody(littleMessages()[0]))} {
		body := append(plainBody(littleMessages()[0]), make([]byte, n)...)[:n]
		checkNotRead(t, "a long frame", inFrame(body))
	}
}

// TestSumThatDoesNotFit: of all there are.
func TestSumThatDoesNotFit(t *testing.T) {
	for _, m := range littleMessages()[:3] {
		b := impl.MsgBytes(m)
		front, sum := b[:len(b)-2], impl.MsgSum(b[:len(b)-2])
		for other := range 65536 {
			y := slices.Concat(front, twoBytes(other))
			if got, ok := impl.MsgRead(y); ok != (other == sum) {
				t.Fatalf("with the sum %d, and not %d, %v, %t is read", other, sum, got, ok)
			}
		}
		checkNotRead(t, "the sum without the length", slices.Concat(front, twoBytes(impl.MsgSum(front[2:]))))
		checkNotRead(t, "no sum", front)
		checkNotRead(t, "the sum twice", slices.Concat(b, twoBytes(sum)))
		checkNotRead(t, "the sum of all", slices.Concat(b, twoBytes(impl.MsgSum(b))))
	}
}

// TestSumThatIsNotJustSo: one that is the same but for what it is taken by.
func TestSumThatIsNotJustSo(t *testing.T) {
	found := 0
	for from := range impl.MsgClient + 1 {
		for n := 1; n <= impl.SlvFuel; n++ {
			b := impl.MsgBytes(askOf(from, "z", n))
			front := b[:len(b)-2]
			if sum := plainSum(front); sum+65521 < 65536 {
				found++
				checkNotRead(t, "a sum that is too great", slices.Concat(front, twoBytes(sum+65521)))
			}
		}
	}
	if found == 0 {
		t.Errorf("no sum is so small")
	}
}

// TestSumThatFitsNoMessage: bytes turned, gone or once more there within a frame that fits them are read only if they are a message's.
func TestSumThatFitsNoMessage(t *testing.T) {
	read, not := 0, 0
	count := func(m message, body []byte) {
		got, ok := checkMessageOf(t, inFrame(body))
		if ok && sameValue(got, m) {
			t.Fatalf("% x is read as %v", body, m)
		}
		if ok {
			read++
		} else {
			not++
		}
	}
	for _, m := range append(littleMessages(), askOf(2, "p(X0,f(X0,X1))", 9), tellOf("p(X0,X1)", 9, answer("p(X0,X0)"))) {
		eachTurned(plainBody(m), func(_ int, y []byte) { count(m, y) })
		eachPart(plainBody(m), func(_ string, y []byte) { count(m, y) })
	}
	if read < 500 || not < 10000 {
		t.Errorf("only %d are read, %d are not", read, not)
	}
	r := steady()
	for range 20000 {
		body := slices.Concat([]byte{byte(r.IntN(4)), byte(r.IntN(5)), byte(r.IntN(7))}, plainNumber(r.IntN(5)-1), []byte{byte(r.IntN(4))}, anyBytes(r, r.IntN(4)))
		if _, ok := checkMessageOf(t, inFrame(body)); ok {
			read++
		}
		checkMessageOf(t, anyBytes(r, r.IntN(20)))
	}
	if read < 700 {
		t.Errorf("only %d are read", read)
	}
}

// TestMessagesAreWrittenJustSo: what says the same in another way is not read, in a frame that fits.
func TestMessagesAreWrittenJustSo(t *testing.T) {
	ask, end, told := plainBody(askOf(0, "z", 1)), plainBody(tellOf("z", 1, outcome{Status: impl.SlvNone})), plainBody(tellOf("z", 1, answer("z")))
	z := plainTermBytes(read("z"))
	for _, b := range [][]byte{ask, end, told} {
		if _, ok := checkMessageOf(t, inFrame(b)); !ok {
			t.Fatalf("% x is not read", b)
		}
	}
	head := func(b []byte, first ...byte) []byte { return slices.Concat(first, b[3:]) }
	for what, body := range map[string][]byte{
		"who asks and tells":            head(ask, 3, 0, 0),
		"who asks and is told none":     head(ask, 1, 0, impl.SlvNone),
		"who asks and is told":          head(told, 1, 0, impl.SlvAnswer),
		"who asks and goes on":          head(ask, 1, 0, impl.SlvGoes),
		"who asks with a term":          slices.Concat(ask, z),
		"who asks with no places":       slices.Concat(ask, []byte{0}),
		"who asks from nowhere":         head(ask, 1, 4, 0),
		"who asks from below 0":         head(ask, 1, 255, 0),
		"who tells from somewhere":      head(end, 2, 1, impl.SlvNone),
		"who tells from outside":        head(end, 2, 3, impl.SlvNone),
		"who tells nothing":             head(end, 2, 0, 0),
		"who tells that it goes on":     head(end, 2, 0, impl.SlvGoes),
		"who tells that it waits":       head(end, 2, 0, impl.SlvWaits),
		"who tells no answer":           head(end, 2, 0, impl.SlvAnswer),
		"an end with a term":            slices.Concat(end, z),
		"an end with no places":         slices.Concat(end, []byte{0}),
		"an answer with another":        slices.Concat(told, z),
		"an answer with a nought":       slices.Concat(told, []byte{0}),
		"an answer without places":      slices.Concat(told[:len(told)-len(z)], []byte{0}),
		"outcome 0":                     slices.Concat(ask[:3], plainNumber(0), z),
		"outcome -1":                    slices.Concat(ask[:3], plainNumber(-1), z),
		"outcome 12001":                 slices.Concat(ask[:3], plainNumber(12001), z),
		"an outcome's number as it is":  slices.Concat(ask[:3], []byte{0, 0, 1}, z),
		"an outcome's number in two":    slices.Concat(ask[:3], []byte{0x86, 0xa1}, z),
		"an outcome's number in four":   slices.Concat(ask[:3], []byte{0, 1, 0x86, 0xa1}, z),
		"no question":                   ask[:6],
		"a question without places":     slices.Concat(ask[:6], []byte{0}),
		"a variable for a question":     slices.Concat(ask[:6], plainTermBytes(read("X0"))),
		"a number for a question":       slices.Concat(ask[:6], plainTermBytes(read("7"))),
		"a question from X1 on":         slices.Concat(ask[:6], plainTermBytes(read("p(X1)"))),
		"an answer from X1 on":          slices.Concat(told[:6], plainTermBytes(read("p(X0)")), plainTermBytes(read("p(X1)"))),
		"an answer of another question": slices.Concat(told[:6], z, plainTermBytes(read("a"))),
		"an answer of another number":   slices.Concat(told[:6], plainTermBytes(read("p(1)")), plainTermBytes(read("p(2)"))),
		"a message behind a message":    slices.Concat(ask, ask),
		"a nought behind it":            slices.Concat(ask, []byte{0}),
		"a nought ahead of it":          slices.Concat([]byte{0}, ask),
	} {
		checkNotRead(t, what, inFrame(body))
	}
}

// TestTwoMessagesHaveTwoTexts: promise 77.
func TestTwoMessagesHaveTwoTexts(t *testing.T) {
	r, shown, pairs := steady(), map[string]string{}, [2]int{}
	for _, m := range append(someMessages(), littleMessages()...) {
		for k := range 12 {
			other := noSpareOf(m)
			for range k {
				turnSome(r, reflect.ValueOf(&other).Elem())
			}
			if !impl.MsgOk(other) {
				continue
			}
			a, b := impl.MsgBytes(m), impl.MsgBytes(other)
			if same := sameValue(m, other); bytes.Equal(a, b) != same {
				t.Fatalf("%v and %v have the bytes % x and % x", m, other, a, b)
			} else if same {
				pairs[0]++
			} else {
				pairs[1]++
			}
			text := fmt.Sprintf("%v", noSpareOf(other))
			if was, seen := shown[string(b)]; seen && was != text || len(b) == 0 {
				t.Fatalf("%s and %s have the bytes % x", was, text, b)
			}
			shown[string(b)] = text
		}
	}
	texts := map[string]bool{}
	for _, text := range shown {
		texts[text] = true
	}
	if len(texts) != len(shown) {
		t.Errorf("%d messages have %d bytes", len(texts), len(shown))
	}
	if pairs[0] < 1000 || pairs[1] < 1000 {
		t.Errorf("only %d are the same, %d are not", pairs[0], pairs[1])
	}
}
