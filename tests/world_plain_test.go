package tests

import (
	"slices"

	"loop.example/catechist/impl"
)

// What the chapter on the world says, plainly: all of a world is looked at again at each step, and what is on its way is a list that is walked through from its front.

type (
	world  = impl.WldWorld
	event  = impl.EvEvent
	netMsg = impl.NetMsg
)

func plainWorldOk(w world) bool {
	if !plainProgOk(w.Prog) || len(w.Nodes) != 3 || !plainQuestion(w.Top) || !plainOutsOk(w.Top, w.Outs) || len(w.Net) > 160 {
		return false
	}
	for k, n := range w.Nodes {
		if !plainNodOk(w.Prog, k, n) {
			return false
		}
	}
	return !slices.ContainsFunc(w.Net, func(m netMsg) bool { return m.To < 0 || m.To > 3 || len(m.Bytes) > 1104 })
}

func plainWldNew(p prog, top []cell) world {
	if !plainProgOk(p) || !plainQuestion(top) {
		return world{}
	}
	return world{Prog: p, Nodes: []nodeState{{Up: true}, {Up: true}, {Up: true}}, Top: top}
}

// plainSend is a world with what has bytes on its way, as long as there is room.
func plainSend(w world, all ...sent) world {
	for _, one := range all {
		if len(one.Bytes) > 0 && len(w.Net) < 160 {
			w.Net = append(slices.Clone(w.Net), netMsg{To: one.To, Bytes: one.Bytes})
		}
	}
	return w
}

// plainWithNode is a world with another node of that number.
func plainWithNode(w world, k int, n nodeState) world {
	w.Nodes = slices.Clone(w.Nodes)
	w.Nodes[k] = n
	return w
}

func plainWldStep(w world, e event) world {
	if !plainWorldOk(w) {
		return world{}
	}
	switch e.Kind {
	case 1:
		return plainWldAsk(w)
	case 2, 7, 8:
		if e.At < 0 || e.At > 2 {
			return w
		}
		return plainAtNode(w, e)
	case 3, 4, 5, 6:
		if e.At < 0 || e.At >= len(w.Net) {
			return w
		}
		return plainAtMessage(w, e)
	}
	return w
}

func plainWldAsk(w world) world {
	if len(w.Outs) >= 12000 || len(w.Outs) > 0 && w.Outs[len(w.Outs)-1].Status != impl.SlvAnswer {
		return w
	}
	m := message{Kind: impl.MsgAsk, From: 3, Top: w.Top, N: len(w.Outs) + 1}
	return plainSend(w, sent{To: plainNode(w.Prog, w.Top), Bytes: plainMsgBytes(m)})
}

func plainAtNode(w world, e event) world {
	switch {
	case e.Kind == 2:
		n, all := plainNodRun(w.Prog, e.At, w.Nodes[e.At])
		return plainSend(plainWithNode(w, e.At, n), all...)
	case e.Kind == 7:
		return plainWithNode(w, e.At, nodeState{})
	case !w.Nodes[e.At].Up:
		return plainWithNode(w, e.At, nodeState{Up: true})
	}
	return w
}

func plainAtMessage(w world, e event) world {
	m := w.Net[e.At]
	without := w
	without.Net = slices.Concat(w.Net[:e.At], w.Net[e.At+1:])
	switch {
	case e.Kind == 4:
		return without
	case e.Kind == 5:
		if len(w.Net) < 160 {
			w.Net = slices.Concat(w.Net, []netMsg{m})
		}
		return w
	case e.Kind == 6:
		if e.Pos < 0 || e.Pos >= len(m.Bytes) || e.V < 1 || e.V > 255 || m.Bent {
			return w
		}
		m.Bent, m.Bytes = true, slices.Clone(m.Bytes)
		m.Bytes[e.Pos] ^= byte(e.V)
		w.Net = slices.Clone(w.Net)
		w.Net[e.At] = m
		return w
	case m.To < 3:
		n, said := plainHear(w.Prog, m.To, w.Nodes[m.To], m.Bytes)
		return plainSend(plainWithNode(without, m.To, n), said)
	}
	told, read := plainMsgOf(m.Bytes)
	open := len(w.Outs) == 0 || w.Outs[len(w.Outs)-1].Status == impl.SlvAnswer
	if read && told.Kind == impl.MsgTell && slices.Equal(told.Top, w.Top) && told.N == len(w.Outs)+1 && open {
		without.Outs = append(slices.Clone(w.Outs), told.Out)
	}
	return without
}

func plainWldRun(w world, all []event) world {
	if !plainWorldOk(w) || len(all) > 300 {
		return world{}
	}
	for _, e := range all {
		w = plainWldStep(w, e)
	}
	return w
}

func plainWldCalm(w world, n int) world {
	if !plainWorldOk(w) || n > 400 {
		return world{}
	}
	for range n {
		w = plainRound(w, plainWldStep)
	}
	return w
}

// plainRound is a calm round by that step.
func plainRound(w world, step func(world, event) world) world {
	for k := range 3 {
		w = step(w, event{Kind: 8, At: k})
	}
	w = step(w, event{Kind: 1})
	for range len(w.Net) {
		w = step(w, event{Kind: 3})
	}
	for k := range 3 {
		w = step(w, event{Kind: 2, At: k})
	}
	for range len(w.Net) {
		w = step(w, event{Kind: 3})
	}
	return w
}
