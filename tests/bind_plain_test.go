package tests

import (
	"slices"

	"loop.example/catechist/impl"
)

// What follows does by the document's words, on lists of places alone, what the program does in its own way.

// plainGet is what the first binding of a variable says.
func plainGet(s []binding, v int) []cell {
	if k := slices.IndexFunc(s, func(b binding) bool { return b.Var == v }); k >= 0 {
		return s[k].Term
	}
	return nil
}

// plainLeads is all variables to which places lead by bindings, those of the places among them.
func plainLeads(s []binding, t []cell) []int {
	found := plainFree(t)
	for k := 0; k < len(found); k++ {
		for _, v := range plainFree(plainGet(s, found[k])) {
			if !slices.Contains(found, v) {
				found = append(found, v)
			}
		}
	}
	return found
}

func plainBindsOk(s []binding) bool {
	for k, b := range s {
		if b.Var < 0 || b.Var > impl.TrmVars || !impl.TrmOk(b.Term) {
			return false
		}
		for _, other := range s[:k] {
			if other.Var == b.Var {
				return false
			}
		}
	}
	for _, b := range s {
		if slices.Contains(plainLeads(s, b.Term), b.Var) {
			return false
		}
	}
	return true
}

// plainFull puts what is bound in the place of the first variable that is, as long as there is one.
func plainFull(s []binding, t []cell) ([]cell, bool) {
	if !plainBindsOk(s) || !impl.TrmOk(t) {
		return nil, false
	}
	for len(t) <= impl.TrmMost {
		k := slices.IndexFunc(t, func(c cell) bool { return c.Kind == impl.TrmVar && plainGet(s, c.N) != nil })
		if k < 0 {
			return t, true
		}
		t = slices.Concat(t[:k], plainGet(s, t[k].N), t[k+1:])
	}
	return nil, false
}

// plainNow is a term, or, where it is a variable that is bound, what it is bound to, and on.
func plainNow(s []binding, t []cell) []cell {
	for t[0].Kind == impl.TrmVar && plainGet(s, t[0].N) != nil {
		t = plainGet(s, t[0].N)
	}
	return t
}

// plainArgs cuts a term into its arguments.
func plainArgs(t []cell) [][]cell {
	var args [][]cell
	rest := t[1:]
	for len(rest) > 0 {
		n := 1
		for !impl.TrmOk(rest[:n]) {
			n++
		}
		args, rest = append(args, rest[:n]), rest[n:]
	}
	return args
}

// plainBind is bindings with one more, if that does not lead to itself.
func plainBind(s []binding, v int, t []cell) ([]binding, bool) {
	if slices.Contains(plainLeads(s, t), v) {
		return nil, false
	}
	return append(slices.Clone(s), binding{Var: v, Term: t}), true
}

// plainSame is bindings by which two terms are the same, however big.
func plainSame(s []binding, a, b []cell) ([]binding, bool) {
	a, b = plainNow(s, a), plainNow(s, b)
	switch {
	case a[0].Kind == impl.TrmVar && b[0].Kind == impl.TrmVar && a[0].N == b[0].N:
		return s, true
	case a[0].Kind == impl.TrmVar:
		return plainBind(s, a[0].N, b)
	case b[0].Kind == impl.TrmVar:
		return plainBind(s, b[0].N, a)
	case a[0] != b[0]:
		return nil, false
	}
	others := plainArgs(b)
	for k, x := range plainArgs(a) {
		var ok bool
		if s, ok = plainSame(s, x, others[k]); !ok {
			return nil, false
		}
	}
	return s, true
}

func plainUnify(s []binding, a, b []cell) ([]binding, int) {
	if !plainBindsOk(s) || !impl.TrmOk(a) || !impl.TrmOk(b) {
		return nil, impl.SubWrong
	}
	_, fits := plainFull(s, a)
	if _, fitsToo := plainFull(s, b); !fits || !fitsToo {
		return nil, impl.SubBig
	}
	then, ok := plainSame(s, a, b)
	if !ok {
		return nil, impl.SubApart
	}
	if _, fits := plainFull(then, a); !fits {
		return nil, impl.SubBig
	}
	return then, impl.SubDone
}
