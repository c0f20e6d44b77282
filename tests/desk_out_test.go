package tests

import (
	"slices"
	"testing"

	"loop.example/catechist/impl"
)

// outQuestions are questions at the edges, by hand, and made ones.
func outQuestions() [][]cell {
	r, all := steady(), edgeQuestions()
	for _, q := range handPosed() {
		all = append(all, q.top)
	}
	for range 150 {
		all = append(all, madeQuestion(r, 1+r.IntN(impl.TrmMost)))
	}
	return all
}

// outsFor are outcomes that may be ones of a question, and some of other questions.
func outsFor(top []cell) []outcome {
	all := append(endOuts(), answersTo(top)...)
	for _, text := range []string{"a", "b", "none", "wrong", "X0", "X1", "p(a)", "p(X0)", "p(X1)", "p(f(X0,X1))", "e(a,b)", "e(b,b)", "7"} {
		all = append(all, answer(text))
	}
	for _, status := range []int{-1, 0, impl.SlvGoes, impl.SlvNone, impl.SlvBig, impl.SlvWrong, impl.SlvWaits, 7} {
		all = append(all, outcome{Status: status, Term: top})
	}
	return append(all, outcome{}, outcome{Status: impl.SlvAnswer}, outcome{Status: impl.SlvGoes}, outcome{Status: impl.SlvWaits}, outcome{Status: impl.SlvAnswer, Term: append(slices.Clone(top), top...)})
}

// TestAnAnswerIsOneOfItsQuestion: promise 38; with other variables the question can be the same as the answer, wherever these begin.
func TestAnAnswerIsOneOfItsQuestion(t *testing.T) {
	answers, ends := 0, 0
	for _, top := range outQuestions() {
		for _, o := range outsFor(top) {
			ok := checkOut(t, top, o)
			switch {
			case ok && o.Status == impl.SlvAnswer:
				answers++
				for _, on := range []int{len(o.Term), 1000, impl.TrmVars - len(top)} {
					if _, how := impl.SubUnify(nil, impl.TrmShift(top, on), o.Term); how != impl.SubDone && how != impl.SubBig {
						t.Errorf("%v of %v is ok, and is %d with it", o, top, how)
					}
				}
			case ok:
				if ends++; len(o.Term) > 0 {
					t.Errorf("%v of %v is ok", o, top)
				}
			case plainEnded(o.Status) && len(o.Term) == 0:
				t.Errorf("%v of %v is not ok", o, top)
			}
		}
	}
	if answers < 500 || ends < 500 {
		t.Errorf("only %d are answers, %d are none", answers, ends)
	}
}

// isWord says whether a question's answer is a name alone that is the word of another outcome as well.
func isWord(top []cell) bool {
	text := impl.TrmText(top)
	return text == "none" || text == "wrong"
}

// TestAnOutcomeHasAText: promise 55, of each two outcomes of a question that are ok; what is not ok has none.
func TestAnOutcomeHasAText(t *testing.T) {
	words, differ := map[int]string{impl.SlvNone: "none", impl.SlvBig: "too big", impl.SlvWrong: "wrong"}, 0
	for _, top := range outQuestions() {
		all := outsFor(top)
		for k, o := range all {
			text := impl.OutText(top, o)
			want := words[o.Status]
			if o.Status == impl.SlvAnswer {
				want = impl.TrmText(o.Term)
			}
			if !impl.OutOk(top, o) {
				want = ""
			}
			if text != want || impl.OutOk(top, o) && text == "" {
				t.Errorf("%v of %v has the text %q, want %q", o, top, text, want)
			}
			for _, other := range all[:k] {
				if isWord(top) || text == "" || impl.OutText(top, other) == "" {
					continue
				}
				differ++
				if (impl.OutText(top, other) == text) != sameOuts([]outcome{o}, []outcome{other}) {
					t.Errorf("%v and %v of %v have the texts %q and %q", o, other, top, text, impl.OutText(top, other))
				}
			}
		}
	}
	if differ < 3000 {
		t.Errorf("only %d pairs", differ)
	}
}

// TestAnswersThatAreWords: where a question is a name alone that is another outcome's word the chapter's words have both be told alike.
func TestAnswersThatAreWords(t *testing.T) {
	for _, one := range []struct {
		lines    []string
		question string
		want     []string
	}{
		{[]string{"none"}, "none", []string{"none", "none"}},
		{[]string{"wrong", "wrong if X0 < 1"}, "wrong", []string{"wrong", "wrong"}},
		{[]string{"a"}, "none", []string{"none"}},
		{[]string{"big", "too"}, "big", []string{"big", "none"}},
		{[]string{"none(X0)"}, "none(none)", []string{"none(none)", "none"}},
		{[]string{"question", "line"}, "question", []string{"question", "none"}},
	} {
		if got := impl.DskAsk(one.lines, one.question, 9); !slices.Equal(got, one.want) {
			t.Errorf("of %q it tells %q, want %q", one.question, got, one.want)
		}
	}
}

// TestNoTextOfNoQuestion: whatever an outcome is.
func TestNoTextOfNoQuestion(t *testing.T) {
	for _, top := range noQuestions() {
		for _, o := range append(endOuts(), answer("X0"), answer("a"), outcome{Status: impl.SlvAnswer, Term: top}, outcome{}) {
			if text := impl.OutText(top, o); text != "" {
				t.Errorf("%s of %s has the text %.80q", brief(o), brief(top), text)
			}
		}
	}
}
