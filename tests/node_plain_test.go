package tests

import (
	"slices"

	"loop.example/catechist/impl"
)

// What the chapter on nodes says, plainly: all of a node is looked at again at each call, and its works are a list that is walked through from its front.

type (
	nodeState = impl.NodNode
	work      = impl.NodWork
	sent      = impl.NodSend
)

// lastOut is the last outcome; nothing, if there is none.
func lastOut(outs []outcome) outcome {
	if len(outs) == 0 {
		return outcome{}
	}
	return outs[len(outs)-1]
}

func plainOutsOk(top []cell, outs []outcome) bool {
	for k, o := range outs {
		if !plainOutOk(top, o) || k < len(outs)-1 && o.Status != impl.SlvAnswer {
			return false
		}
	}
	return len(outs) <= 12000
}

func plainWorkOk(p prog, node int, w work) bool {
	if !plainTrailOk(p, node, w.Slv) || plainNode(p, w.Slv.Top) != node || !plainOutsOk(w.Slv.Top, w.Outs) || w.Want < 1 || w.Want > 12000 {
		return false
	}
	last := lastOut(w.Outs)
	switch w.Slv.Status {
	case impl.SlvGoes, impl.SlvWaits:
		return len(w.Outs) == 0 || last.Status == impl.SlvAnswer
	case impl.SlvAnswer:
		return last.Status == impl.SlvAnswer && slices.Equal(last.Term, w.Slv.Out)
	}
	return last.Status == w.Slv.Status
}

func plainNodOk(p prog, node int, n nodeState) bool {
	if !plainProgOk(p) || node < 0 || node > 2 || len(n.Works) > 32 || !n.Up && len(n.Works) > 0 {
		return false
	}
	for k, w := range n.Works {
		if !plainWorkOk(p, node, w) || slices.ContainsFunc(n.Works[:k], func(o work) bool { return slices.Equal(o.Slv.Top, w.Slv.Top) }) {
			return false
		}
	}
	return true
}

func plainHear(p prog, node int, n nodeState, b []byte) (nodeState, sent) {
	if !plainNodOk(p, node, n) {
		return nodeState{}, sent{}
	}
	m, read := plainMsgOf(b)
	switch {
	case !n.Up || !read:
		return n, sent{}
	case m.Kind == impl.MsgTell:
		return plainTold(p, node, n, m), sent{}
	case plainNode(p, m.Top) != node:
		return n, sent{}
	}
	return plainAsked(n, m)
}

func plainTold(p prog, node int, n nodeState, m message) nodeState {
	then := nodeState{Up: true}
	for _, w := range n.Works {
		if top, far := plainWants(w.Slv); far == m.N && slices.Equal(top, m.Top) {
			w.Slv = plainTake(p, node, w.Slv, m.Top, m.N, m.Out)
			w = plainCame(w)
		}
		then.Works = append(then.Works, w)
	}
	return then
}

// plainCame is a work with what came of its solving.
func plainCame(w work) work {
	if w.Slv.Status != impl.SlvGoes && w.Slv.Status != impl.SlvWaits {
		w.Outs = append(slices.Clone(w.Outs), outcome{Status: w.Slv.Status, Term: w.Slv.Out})
	}
	return w
}

func plainAsked(n nodeState, m message) (nodeState, sent) {
	first := work{Want: 1, Slv: plainTrailNew(m.Top)}
	var others []work
	for _, w := range n.Works {
		if slices.Equal(w.Slv.Top, m.Top) {
			first = w
		} else {
			others = append(others, w)
		}
	}
	first.Asked = true
	if m.N <= len(first.Outs)+1 {
		first.Want = max(first.Want, m.N)
	} else {
		first.Want = max(first.Want, len(first.Outs)+1)
	}
	all := append([]work{first}, others...)
	then := nodeState{Up: true, Works: all[:min(len(all), 32)]}
	if m.N > len(first.Outs) {
		return then, sent{}
	}
	return then, sent{To: m.From, Bytes: plainMsgBytes(message{Kind: impl.MsgTell, Top: m.Top, N: m.N, Out: first.Outs[m.N-1]})}
}

func plainNodRun(p prog, node int, n nodeState) (nodeState, []sent) {
	if !plainNodOk(p, node, n) {
		return nodeState{}, nil
	}
	then := nodeState{Up: n.Up}
	var all []sent
	for _, w := range n.Works {
		if w.Asked && len(w.Outs) < w.Want {
			w = plainOn(p, node, w)
			if top, far := plainWants(w.Slv); far > 0 {
				m := message{Kind: impl.MsgAsk, From: node, Top: top, N: far}
				all = append(all, sent{To: plainNode(p, top), Bytes: plainMsgBytes(m)})
			}
		}
		w.Asked = false
		then.Works = append(then.Works, w)
	}
	return then, all
}

// plainOn goes on with a work as long as it may.
func plainOn(p prog, node int, w work) work {
	for range 40 {
		if len(w.Outs) >= w.Want || w.Slv.Status != impl.SlvGoes && w.Slv.Status != impl.SlvAnswer {
			break
		}
		w.Slv = plainTrailStep(p, node, w.Slv)
		w = plainCame(w)
	}
	return w
}
