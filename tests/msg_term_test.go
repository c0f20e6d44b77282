package tests

import (
	"bytes"
	"math/rand/v2"
	"slices"
	"strings"
	"testing"

	"loop.example/catechist/impl"
)

// checkTermOf holds what bytes are read as against the plain reading; with promise 39, of what is read.
func checkTermOf(t *testing.T, b []byte) ([]cell, bool) {
	t.Helper()
	want, ok := plainTermOf(b)
	got, read := impl.TrmTake(b)
	if read != ok || !slices.Equal(got, want) {
		t.Fatalf("% .200x is read as %.200v, %t, want %.200v, %t", b, got, read, want, ok)
	}
	if read && (!impl.TrmOk(got) || !bytes.Equal(impl.TrmBytes(got), b)) {
		t.Fatalf("% .200x is read as %v, which has the bytes % .200x", b, got, impl.TrmBytes(got))
	}
	return got, read
}

func TestTermBytesByHand(t *testing.T) {
	for text, want := range map[string]string{
		"a":                "01 03 01 86 a0 01 61",
		"zzzzzzzz":         "01 03 01 86 a0 08 7a 7a 7a 7a 7a 7a 7a 7a",
		"X0":               "01 01 01 86 a0",
		"X255":             "01 01 01 87 9f",
		"X99999":           "01 01 03 0d 3f",
		"-9999":            "01 02 01 5f 91",
		"-1":               "01 02 01 86 9f",
		"0":                "01 02 01 86 a0",
		"9999":             "01 02 01 ad af",
		"f(X1,-7)":         "03 03 01 86 a2 01 66 01 01 86 a1 02 01 86 99",
		"abcdefgh(a,X3,2)": "04 03 01 86 a3 08 61 62 63 64 65 66 67 68 03 01 86 a0 01 61 01 01 86 a3 02 01 86 a2",
	} {
		if got := impl.TrmBytes(read(text)); !bytes.Equal(got, fromHex(want)) {
			t.Errorf("%s has the bytes % x, want %s", text, got, want)
		}
		if got, ok := impl.TrmTake(fromHex(want)); !ok || impl.TrmText(got) != text {
			t.Errorf("%s is read as %v, %t", want, got, ok)
		}
	}
}

// TestTermBytesAreReadAsIt: promise 39, of terms of all sizes.
func TestTermBytesAreReadAsIt(t *testing.T) {
	for _, x := range append(someTerms(), append(smallTerms(), edgeQuestions()...)...) {
		b := impl.TrmBytes(x)
		if !bytes.Equal(b, plainTermBytes(x)) {
			t.Fatalf("%v has the bytes % x", x, b)
		}
		got, ok := checkTermOf(t, b)
		if !ok || !impl.TrmSame(got, x) {
			t.Errorf("%v is read as %v, %t", x, got, ok)
		}
	}
	if got := len(impl.TrmBytes(longest())); got != 1+impl.TrmMost*(5+impl.TrmName) {
		t.Errorf("the greatest term has %d bytes", got)
	}
}

// TestNoTermHasNoBytes: and what would be written of it is not read.
func TestNoTermHasNoBytes(t *testing.T) {
	r, all := steady(), wrongPlaces()
	for range 3000 {
		all = append(all, anyPlaces(r))
	}
	wrong := 0
	for _, x := range all {
		if impl.TrmOk(x) {
			continue
		}
		wrong++
		if got := impl.TrmBytes(x); len(got) != 0 {
			t.Errorf("%.200v has the bytes % .200x", x, got)
		}
		checkTermOf(t, plainPlacesBytes(x))
	}
	if wrong < 1500 {
		t.Errorf("only %d are no term", wrong)
	}
}

// nearTerms are a term and such as differ from it at one place.
func nearTerms(x []cell) [][]cell {
	all := [][]cell{x}
	for k, c := range x {
		for _, other := range []cell{
			{Kind: c.Kind, N: c.N + 1, Name: c.Name}, {Kind: c.Kind, N: c.N - 1, Name: c.Name}, {Kind: c.Kind, N: c.N + 256, Name: c.Name}, {Kind: c.Kind, N: c.N + 65536, Name: c.Name}, {Kind: c.Kind, N: -c.N, Name: c.Name},
			{Kind: impl.TrmVar, N: c.N}, {Kind: impl.TrmNum, N: c.N}, {Kind: impl.TrmFun, N: 0, Name: "a"},
			{Kind: c.Kind, N: c.N, Name: c.Name + "a"}, {Kind: c.Kind, N: c.N, Name: "b"},
		} {
			y := slices.Clone(x)
			y[k] = other
			if impl.TrmOk(y) {
				all = append(all, y)
			}
		}
	}
	return all
}

// TestTermsAreTheSameIfTheirBytesAre: promise 15, of places, texts and bytes.
func TestTermsAreTheSameIfTheirBytesAre(t *testing.T) {
	t.Parallel()
	textOf, pairs := map[string]string{}, [2]int{}
	for _, x := range someTerms() {
		for _, y := range nearTerms(x) {
			a, b := impl.TrmBytes(x), impl.TrmBytes(y)
			same := impl.TrmSame(x, y)
			if same != impl.TrmSame(y, x) || same != bytes.Equal(a, b) || same != (impl.TrmText(x) == impl.TrmText(y)) {
				t.Fatalf("%v and %v: %t, with the bytes % x and % x", x, y, same, a, b)
			}
			if text, seen := textOf[string(b)]; seen && text != impl.TrmText(y) || len(b) == 0 {
				t.Fatalf("%s and %s have the bytes % x", text, impl.TrmText(y), b)
			}
			textOf[string(b)] = impl.TrmText(y)
			if same {
				pairs[0]++
			} else {
				pairs[1]++
			}
		}
	}
	if pairs[0] < 1000 || pairs[1] < 10000 {
		t.Errorf("only %d are the same, %d are not", pairs[0], pairs[1])
	}
	small := append(smallTerms(), edgeTerms()...)
	for _, x := range small {
		for _, y := range small {
			if impl.TrmSame(x, y) != bytes.Equal(impl.TrmBytes(x), impl.TrmBytes(y)) {
				t.Errorf("%v and %v", x, y)
			}
		}
	}
}

// TestTurnedTermBytes: what is read of a term's bytes with one of them turned is another term, with just these bytes.
func TestTurnedTermBytes(t *testing.T) {
	read, not := 0, 0
	for _, x := range append(edgeTerms(), longest(), manyVars()) {
		eachTurned(impl.TrmBytes(x), func(k int, y []byte) {
			got, ok := checkTermOf(t, y)
			if ok && slices.Equal(got, x) {
				t.Fatalf("%v is read with byte %d turned: % x", x, k, y)
			}
			if ok {
				read++
			} else {
				not++
			}
		})
	}
	if read < 1000 || not < 10000 {
		t.Errorf("only %d are read, %d are not", read, not)
	}
}

// TestTermBytesMoreOrLess: a term's bytes with one more at an end of them, or without one at an end, are no term's.
func TestTermBytesMoreOrLess(t *testing.T) {
	for _, x := range append(edgeTerms(), longest()) {
		b := impl.TrmBytes(x)
		eachPart(b, func(what string, y []byte) {
			_, ok := checkTermOf(t, y)
			if atEnd := what != "one byte more" && what != "without one byte"; ok && atEnd {
				t.Fatalf("%s of %v is read: % x", what, x, y)
			}
		})
		for _, y := range [][]byte{b[:len(b)-1], b[1:]} {
			if got, ok := impl.TrmTake(y); ok {
				t.Errorf("% x is read as %v", y, got)
			}
		}
	}
}

// TestBytesThatAreNoTerm: each says why.
func TestBytesThatAreNoTerm(t *testing.T) {
	chain41 := "29" + strings.Repeat(" 03 01 86 a1 01 66", 40) + " 03 01 86 a0 01 61"
	for what, b := range map[string]string{
		"no bytes":                        "",
		"no places":                       "00",
		"no places, and one":              "00 01 01 86 a0",
		"one place that is not there":     "01",
		"two places, and one there":       "02 01 01 86 a0",
		"one place, and two there":        "01 01 01 86 a0 01 01 86 a0",
		"two places that are two terms":   "02 01 01 86 a0 01 01 86 a0",
		"more places than may be":         chain41,
		"255 places":                      "ff 01 01 86 a0",
		"a kind 0":                        "01 00 01 86 a0",
		"a kind 4":                        "01 04 01 86 a0",
		"a kind 4 with a name":            "01 04 01 86 a0 01 61",
		"a kind 131":                      "01 83 01 86 a0 01 61",
		"a variable below 0":              "01 01 01 86 9f",
		"a variable that is too great":    "01 01 03 0d 40",
		"a number that is too great":      "01 02 01 ad b0",
		"a number too far below 0":        "01 02 01 5f 90",
		"a number as it is":               "01 02 00 00 05",
		"the lowest byte first":           "01 02 a0 86 01",
		"a number of two bytes":           "01 02 86 a0",
		"a number of four bytes":          "01 02 00 01 86 a0",
		"a variable with no name's size":  "01 01 01 86 a0 00",
		"a variable with a name":          "01 01 01 86 a0 01 61",
		"a number with a name":            "01 02 01 86 a0 01 61",
		"a name without a size":           "01 03 01 86 a0",
		"a name of no bytes":              "01 03 01 86 a0 00",
		"a name of nine":                  "01 03 01 86 a0 09 61 61 61 61 61 61 61 61 61",
		"a name that is longer":           "01 03 01 86 a0 01 61 62",
		"a name that is shorter":          "01 03 01 86 a0 02 61",
		"a name of a great letter":        "01 03 01 86 a0 01 41",
		"a name of a digit":               "01 03 01 86 a0 01 31",
		"a name of a nought":              "01 03 01 86 a0 01 00",
		"a name of no letter":             "01 03 01 86 a0 02 61 ff",
		"an argument that is not there":   "01 03 01 86 a1 01 61",
		"an argument without a name":      "02 03 01 86 a0 01 61 02 01 86 a0",
		"fewer arguments than none":       "01 03 01 86 9f 01 61",
		"fewer arguments by far":          "01 03 00 00 00 01 61",
		"more arguments by far":           "01 03 ff ff ff 01 61",
		"more arguments than a name has":  "05 03 01 86 a4 01 66 02 01 86 a0 02 01 86 a0 02 01 86 a0 02 01 86 a0",
		"the text":                        "61",
		"a nought behind it":              "01 01 01 86 a0 00",
		"a nought ahead of it":            "00 01 03 01 86 a0 01 61",
		"how many places in two bytes":    "00 01 01 01 86 a0",
		"its places alone":                "01 01 86 a0",
		"how many bytes, and not places":  "04 01 01 86 a0",
		"a name with a nought behind it":  "01 03 01 86 a0 02 61 00",
		"a name whose size is in 3 bytes": "01 03 01 86 a0 00 00 01 61",
	} {
		if got, ok := impl.TrmTake(fromHex(b)); ok || len(got) != 0 {
			t.Errorf("%s: %s is read as %v, %t", what, b, got, ok)
		}
		checkTermOf(t, fromHex(b))
	}
}

// TestNumbersInBytes: each three bytes about the edges, and many others, of each kind.
func TestNumbersInBytes(t *testing.T) {
	var all []int
	for n := 0; n < 1<<24; n += 4099 {
		all = append(all, n)
	}
	for _, edge := range []int{0, 1, 3, 100000 - impl.TrmNums, 100000, 100003, 100000 + impl.TrmNums, 100000 + impl.TrmVars, 1<<24 - 1} {
		for n := edge - 3; n <= edge+3; n++ {
			all = append(all, (n+1<<24)%(1<<24))
		}
	}
	read := [5]int{}
	for _, n := range all {
		for kind := range 5 {
			b := []byte{1, byte(kind), byte(n >> 16), byte(n >> 8), byte(n)}
			if kind == impl.TrmFun {
				b = append(b, 1, 'a')
			}
			if got, ok := checkTermOf(t, b); ok {
				read[kind]++
				if got[0].N != n-100000 {
					t.Errorf("% x is read as %v", b, got)
				}
			}
		}
	}
	if read[0] != 0 || read[1] < 20 || read[2] < 10 || read[3] < 1 || read[4] != 0 {
		t.Errorf("so many of each kind are read: %v", read)
	}
}

// anyBytes are such as a term's bytes are made of, or any.
func anyBytes(r *rand.Rand, n int) []byte {
	var b []byte
	for range n {
		switch r.IntN(8) {
		case 0:
			b = append(b, byte(r.IntN(256)))
		case 1, 2:
			b = append(b, byte(r.IntN(4)))
		case 3:
			b = append(b, 1, 1, 0x86, 0xa0)
		case 4:
			b = append(b, 2, 1, 0x86, byte(0x90+r.IntN(32)))
		default:
			b = append(b, 3, 1, 0x86, byte(0xa0+r.IntN(4)), 1, byte('a'+r.IntN(3)))
		}
	}
	return b
}

func TestAnyBytesOfTerms(t *testing.T) {
	r, read := steady(), 0
	for range 40000 {
		b := anyBytes(r, r.IntN(5))
		if r.IntN(2) == 0 {
			b = append([]byte{byte(1 + r.IntN(4))}, b...)
		}
		if _, ok := checkTermOf(t, b); ok {
			read++
		}
	}
	if read < 400 {
		t.Errorf("only %d are read", read)
	}
	for a := range 256 {
		checkTermOf(t, []byte{byte(a)})
		for b := range 256 {
			checkTermOf(t, []byte{byte(a), byte(b)})
		}
	}
}

// manyBytes are lists of very many bytes.
func manyBytes() [][]byte {
	const many = 1 << 21
	return [][]byte{
		make([]byte, many),
		bytes.Repeat([]byte{1}, many),
		bytes.Repeat([]byte{3, 1, 0x86, 0xa1, 1, 'f'}, many/6),
		bytes.Repeat([]byte{255}, many),
		append(impl.TrmBytes(longest()), make([]byte, many)...),
		append(plainMsgBytes(littleMessages()[0]), make([]byte, many)...),
		bytes.Repeat(plainMsgBytes(littleMessages()[2]), many/40),
	}
}

func TestVeryManyBytesAreNoTerm(t *testing.T) {
	for k, b := range manyBytes() {
		if got, ok := impl.TrmTake(b); ok || len(got) != 0 {
			t.Errorf("list %d is read as %v, %t", k, got, ok)
		}
	}
}
