package tests

import (
	"regexp"
	"slices"
	"strconv"
	"strings"
	"testing"

	"loop.example/catechist/impl"
)

// plainText writes a term by the words of the document, and tells which places are left.
func plainText(t []cell) (string, []cell) {
	c, rest := t[0], t[1:]
	switch c.Kind {
	case impl.TrmVar:
		return "X" + strconv.Itoa(c.N), rest
	case impl.TrmNum:
		return strconv.Itoa(c.N), rest
	}
	var args []string
	for range c.N {
		var a string
		a, rest = plainText(rest)
		args = append(args, a)
	}
	if len(args) == 0 {
		return c.Name, rest
	}
	return c.Name + "(" + strings.Join(args, ",") + ")", rest
}

var (
	atomText  = `(?:@|X(?:0|[1-9][0-9]{0,4})|-?[1-9][0-9]{0,3}|0|[a-z]{1,8})`
	wholeText = regexp.MustCompile(`^` + atomText + `$`)
	innerText = regexp.MustCompile(`[a-z]{1,8}\(` + atomText + `(?:,` + atomText + `){0,2}\)`)
	placeText = regexp.MustCompile(`X[0-9]+|[0-9]+|[a-z]+`)
)

// plainlyText says whether a text is a term's: what is innermost becomes one sign, until all of it is one.
func plainlyText(s string) bool {
	if strings.Contains(s, "@") || len(placeText.FindAllString(s, -1)) > impl.TrmMost {
		return false
	}
	for {
		shorter := innerText.ReplaceAllString(s, "@")
		if shorter == s {
			return wholeText.MatchString(s)
		}
		s = shorter
	}
}

func checkRead(t *testing.T, s string) bool {
	t.Helper()
	x, ok := impl.TrmRead(s)
	if want := plainlyText(s); ok != want {
		t.Errorf("%q is read: %t, want %t", s, ok, want)
	}
	if ok && (!impl.TrmOk(x) || impl.TrmText(x) != s) {
		t.Errorf("%q is read as %v, with the text %q", s, x, impl.TrmText(x))
	}
	if !ok && len(x) != 0 {
		t.Errorf("%q is read as none, with %v", s, x)
	}
	return ok
}

// TestTextIsReadAsItsTerm: promise 9, of terms.
func TestTextIsReadAsItsTerm(t *testing.T) {
	for _, x := range someTerms() {
		want, _ := plainText(x)
		if s := impl.TrmText(x); s != want {
			t.Errorf("%v has the text %q, want %q", x, s, want)
		}
		if y, ok := impl.TrmRead(want); !ok || !slices.Equal(y, x) {
			t.Errorf("%q is read as %v", want, y)
		}
	}
}

func TestTextByHand(t *testing.T) {
	for s, x := range map[string][]cell{
		"X0":               places(variable(0)),
		"X99999":           places(variable(99999)),
		"0":                places(number(0)),
		"9999":             places(number(9999)),
		"-9999":            places(number(-9999)),
		"a":                places(name("a", 0)),
		"abcdefgh":         places(name("abcdefgh", 0)),
		"f(a)":             places(name("f", 1), name("a", 0)),
		"f(X3,g(a,-7),X3)": places(name("f", 3), variable(3), name("g", 2), name("a", 0), number(-7), variable(3)),
	} {
		if got := impl.TrmText(x); got != s {
			t.Errorf("%v has the text %q, want %q", x, got, s)
		}
		if got, ok := impl.TrmRead(s); !ok || !slices.Equal(got, x) {
			t.Errorf("%q is read as %v", s, got)
		}
	}
}

// TestNoText: promise 9, of texts that are none, each for another cause.
func TestNoText(t *testing.T) {
	for _, s := range []string{
		"", " ", "a ", " a", "a b", "f(a, b)", "f (a)", "f( a)", "f(a )", "a\t", "a\n", "\x00", "a\x00",
		"X", "X00", "X01", "X-1", "X+1", "X100000", "X099999", "Xa", "X1a", "X1(a)", "x1", "X 1", "XX1", "X1X1", "X1.0", "X0x1",
		"X99999999999999999999999", "X9223372036854775808", "X18446744073709551616",
		"-", "--1", "-0", "+1", "+0", "00", "01", "-01", "007", "10000", "-10000", "99999", "1-", "1a", "1(a)", "1.0", "1e3", "0x1", "1_0",
		"99999999999999999999999", "-99999999999999999999999", "4294967296", "18446744073709551616",
		"A", "aB", "a1", "a_b", "a-b", "abcdefghi", "abcdefghi(a)", "\u00e4", "\u0661", "X\u0661", "a\xff", "`", "{",
		"(", ")", "()", "(a)", ",", "a,", ",a", "a,b", "f(", "f()", "f)", "f(a", "f(a,", "f(a,)", "f(,a)", "f(,)", "f(a,,b)", "f(a;b)",
		"f(a))", "f(a)b", "f(a)(b)", "f(a)1", "f(a),", "f((a))", "f(a)X1", "(f(a))",
		"f(a,b,c,d)", "f(a,b,c,)", "f(g(a,b,c,d))", "f(X01)", "f(-0)", "f(10000)", "f(X100000)", "f(abcdefghi)",
		strings.Repeat("f(", 1000000), strings.Repeat("(", 1000000), strings.Repeat("a", 1000000), strings.Repeat("9", 1000000),
		"f" + strings.Repeat("(a", 1000000), "f(" + strings.Repeat("a,", 1000000) + "a)",
	} {
		if x, ok := impl.TrmRead(s); ok || len(x) != 0 {
			t.Errorf("%.40q is read as %v", s, x)
		}
	}
}

func TestTextOfTheGreatestTerm(t *testing.T) {
	deep := func(n int) string { return strings.Repeat("f(", n-1) + "a" + strings.Repeat(")", n-1) }
	if x, ok := impl.TrmRead(deep(impl.TrmMost)); !ok || !slices.Equal(x, chain(impl.TrmMost)) {
		t.Errorf("the greatest term is read as %v", x)
	}
	if x, ok := impl.TrmRead(deep(impl.TrmMost + 1)); ok || len(x) != 0 {
		t.Errorf("one place too many is read as %v", x)
	}
	broad, _ := plainText(wide(impl.TrmMost + 3))
	if x, ok := impl.TrmRead(broad); ok || len(x) != 0 {
		t.Errorf("three places too many are read as %v", x)
	}
}

// TestEachShortText: promise 9, of all texts of a few signs.
func TestEachShortText(t *testing.T) {
	const signs = "aX01-(,) "
	read := 0
	var try func(s string, left int)
	try = func(s string, left int) {
		if checkRead(t, s) {
			read++
		}
		if left == 0 {
			return
		}
		for _, c := range []byte(signs) {
			try(s+string(rune(c)), left-1)
		}
	}
	try("", 6)
	if read < 100 {
		t.Errorf("only %d texts are read", read)
	}
}

// TestTurnedTexts: promise 9, of texts with one sign turned, taken away or put in.
func TestTurnedTexts(t *testing.T) {
	t.Parallel()
	const signs = "azAX0159-+(,) @\x00\xff"
	r := steady()
	read := 0
	for _, x := range someTerms() {
		s := impl.TrmText(x)
		for range 30 {
			i, c := r.IntN(len(s)), signs[r.IntN(len(signs))]
			for _, bent := range []string{s[:i] + string([]byte{c}) + s[i+1:], s[:i] + s[i+1:], s[:i] + string([]byte{c}) + s[i:]} {
				if checkRead(t, bent) {
					read++
				}
			}
		}
	}
	if read < 100 {
		t.Errorf("only %d texts are read", read)
	}
}

// TestTextTellsVariables: promise 62.
func TestTextTellsVariables(t *testing.T) {
	for _, x := range someTerms() {
		s := impl.TrmText(x)
		for i, c := range x {
			if c.Kind != impl.TrmVar {
				continue
			}
			for _, other := range []int{0, 1, c.N ^ 1, c.N / 10, 10000, impl.TrmVars} {
				y := slices.Clone(x)
				y[i].N = other
				if (impl.TrmText(y) == s) != (other == c.N) {
					t.Errorf("%v and %v have the texts %q and %q", x, y, s, impl.TrmText(y))
				}
			}
		}
		for i := range len(s) + 1 {
			if y, ok := impl.TrmRead(s[:i] + " " + s[i:]); ok || len(y) != 0 {
				t.Errorf("%q with a space at %d is read as %v", s, i, y)
			}
		}
	}
}
