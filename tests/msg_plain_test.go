package tests

import (
	"bytes"
	"slices"

	"loop.example/catechist/impl"
)

// plainNumber is a number's three bytes, by division.
func plainNumber(n int) []byte {
	n += 100000
	return []byte{byte(n / 65536 % 256), byte(n / 256 % 256), byte(n % 256)}
}

// plainPlacesBytes is what would be written of any places, whether they are a term or not.
func plainPlacesBytes(t []cell) []byte {
	b := []byte{byte(len(t))}
	for _, c := range t {
		b = append(append(b, byte(c.Kind)), plainNumber(c.N)...)
		if c.Kind == impl.TrmFun {
			b = append(append(b, byte(len(c.Name))), c.Name...)
		}
	}
	return b
}

func plainTermBytes(t []cell) []byte {
	if !impl.TrmOk(t) {
		return nil
	}
	return plainPlacesBytes(t)
}

// plainCell is the place with which bytes may begin, and what is behind it; whether it is written just so is not looked at.
func plainCell(b []byte) (cell, []byte) {
	if len(b) < 4 {
		return cell{}, nil
	}
	c := cell{Kind: int(b[0]), N: int(b[1])*65536 + int(b[2])*256 + int(b[3]) - 100000}
	b = b[4:]
	if c.Kind != impl.TrmFun || len(b) == 0 {
		return c, b
	}
	n := min(int(b[0]), len(b)-1)
	c.Name = string(b[1 : 1+n])
	return c, b[1+n:]
}

// plainPlaces is the places with which bytes may begin, and what is behind them.
func plainPlaces(b []byte) ([]cell, []byte) {
	if len(b) == 0 {
		return nil, nil
	}
	var t []cell
	n, rest := int(b[0]), b[1:]
	for range n {
		var c cell
		c, rest = plainCell(rest)
		t = append(t, c)
	}
	return t, rest
}

// plainTermOf asks by the document's words: it is read if all the bytes are those that are written of it.
func plainTermOf(b []byte) ([]cell, bool) {
	t, _ := plainPlaces(b)
	if len(b) == 0 || !bytes.Equal(plainTermBytes(t), b) {
		return nil, false
	}
	return t, true
}

// plainSum goes from the last byte to the first: each counts 257 times as much as the one behind it, and ahead of all there is a 1.
func plainSum(b []byte) int {
	sum, weight := 0, 1
	for _, one := range slices.Backward(b) {
		sum = (sum + int(one)*weight) % 65521
		weight = weight * 257 % 65521
	}
	return (sum + weight) % 65521
}

func plainMsgOk(m message) bool {
	if !plainQuestion(m.Top) || m.N < 1 || m.N > 12000 {
		return false
	}
	switch m.Kind {
	case impl.MsgAsk:
		return m.From >= 0 && m.From <= 3 && m.Out.Status == 0 && len(m.Out.Term) == 0
	case impl.MsgTell:
		return m.From == 0 && plainOutOk(m.Top, m.Out)
	}
	return false
}

// plainBody is what would be written of any message, whether it is ok or not.
func plainBody(m message) []byte {
	b := slices.Concat([]byte{byte(m.Kind), byte(m.From), byte(m.Out.Status)}, plainNumber(m.N), plainPlacesBytes(m.Top))
	if m.Out.Status == impl.SlvAnswer {
		b = append(b, plainPlacesBytes(m.Out.Term)...)
	}
	return b
}

func twoBytes(n int) []byte { return []byte{byte(n / 256 % 256), byte(n % 256)} }

// inFrame puts any bytes into a frame, with a length and a sum that fit.
func inFrame(body []byte) []byte { return withSum(append(twoBytes(len(body)), body...)) }

// withSum puts a sum that fits behind any bytes.
func withSum(b []byte) []byte { return slices.Concat(b, twoBytes(plainSum(b))) }

func plainMsgBytes(m message) []byte {
	if !plainMsgOk(m) {
		return nil
	}
	return inFrame(plainBody(m))
}

// plainMsgOf asks by the document's words: it is read if all the bytes are those that are written of it.
func plainMsgOf(b []byte) (message, bool) {
	if len(b) < 10 {
		return message{}, false
	}
	body := b[2 : len(b)-2]
	m := message{Kind: int(body[0]), From: int(body[1]), Out: outcome{Status: int(body[2])}}
	m.N = int(body[3])*65536 + int(body[4])*256 + int(body[5]) - 100000
	top, rest := plainPlaces(body[6:])
	m.Top = top
	if m.Out.Status == impl.SlvAnswer {
		m.Out.Term, _ = plainPlaces(rest)
	}
	if !bytes.Equal(plainMsgBytes(m), b) {
		return message{}, false
	}
	return m, true
}
