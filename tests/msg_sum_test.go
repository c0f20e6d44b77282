package tests

import (
	"bytes"
	"slices"
	"testing"

	"loop.example/catechist/impl"
)

func TestSumByHand(t *testing.T) {
	all := make([]byte, 256)
	for k := range all {
		all[k] = byte(k)
	}
	for _, one := range []struct {
		b    []byte
		want int
	}{
		{nil, 1},
		{[]byte{}, 1},
		{[]byte{0}, 257},
		{[]byte{255}, 512},
		{[]byte{1, 2, 3}, 5699},
		{[]byte{3, 2, 1}, 6753},
		{make([]byte, 10), 58970},
		{bytes.Repeat([]byte{255}, 10), 46301},
		{all, 18321},
		{[]byte("catechist"), 37171},
		{bytes.Repeat([]byte{255}, impl.MsgMax), 38488},
		// The least and the greatest there are.
		{[]byte{252, 229}, 0},
		{[]byte{252, 228}, 65520},
	} {
		if got := impl.MsgSum(one.b); got != one.want {
			t.Errorf("% .60x has the sum %d, want %d", one.b, got, one.want)
		}
	}
}

// summed are lists of bytes of many lengths.
func summed() [][]byte {
	r := steady()
	all := [][]byte{nil, {0}, {255}, make([]byte, 40), bytes.Repeat([]byte{255}, 40)}
	for n := range 60 {
		var b []byte
		for range n {
			b = append(b, byte(r.IntN(256)))
		}
		all = append(all, b)
	}
	for _, m := range littleMessages() {
		all = append(all, plainMsgBytes(m), plainBody(m))
	}
	return append(all, plainBody(message{Kind: impl.MsgTell, Top: longest(), N: 1, Out: outcome{Status: impl.SlvAnswer, Term: longest()}}))
}

// TestSumHangsOnEachByte: promise 42.
func TestSumHangsOnEachByte(t *testing.T) {
	for _, b := range summed() {
		sum := impl.MsgSum(b)
		if sum != plainSum(b) || sum < 0 || sum > 65520 {
			t.Errorf("% x has the sum %d, want %d", b, sum, plainSum(b))
		}
		eachTurned(b, func(k int, y []byte) {
			if other := impl.MsgSum(y); other == sum || other < 0 || other > 65520 {
				t.Fatalf("% x has the sum %d, and with byte %d turned to %d the sum %d", b, sum, k, y[k], other)
			}
		})
	}
}

// TestSumOfVeryMany: promise 42, where a number that is not kept small would go round.
func TestSumOfVeryMany(t *testing.T) {
	for k, b := range manyBytes() {
		sum := impl.MsgSum(b)
		if sum != plainSum(b) || sum < 0 || sum > 65520 {
			t.Errorf("list %d has the sum %d, want %d", k, sum, plainSum(b))
		}
		for _, at := range []int{0, 1, len(b) / 2, len(b) - 1} {
			y := slices.Clone(b)
			y[at] ^= 64
			if impl.MsgSum(y) == sum {
				t.Errorf("list %d with byte %d turned has the same sum", k, at)
			}
		}
	}
}
