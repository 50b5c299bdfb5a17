package net

import (
	"bytes"
	"fmt"
	"math/rand"
	"testing"

	"commonplace/api"
	"commonplace/frame"
)

func told(n *Net) string {
	s := ""
	for _, l := range n.All() {
		s += fmt.Sprintf("%d%v", l.To, l.Frame)
		if l.Spoilt {
			s += "!"
		}
		s += " "
	}
	return s
}

// P28.1
func TestSendLooks(t *testing.T) {
	var n Net
	b := []byte{1, 2, 3}
	if n.Len() != 0 || len(n.All()) != 0 || n.Count(0) != 0 {
		t.Error("a zero one")
	}
	if n.Send(0, b) != api.OK || n.Send(7, nil) != api.OK || n.Send(0, []byte{4}) != api.OK {
		t.Error("Send")
	}
	b[0] = 9
	if told(&n) != "0[1 2 3] 7[] 0[4] " || n.Len() != 3 || n.Count(0) != 2 || n.Count(7) != 1 || n.Count(8) != 0 {
		t.Error(told(&n))
	}
	l, e := n.At(0)
	if e != api.OK || l.To != 0 || l.Spoilt || !bytes.Equal(l.Frame, []byte{1, 2, 3}) {
		t.Error(l, e)
	}
	l.Frame[0] = 9
	n.All()[0].Frame[0] = 9
	if told(&n) != "0[1 2 3] 7[] 0[4] " {
		t.Error("memory is shared")
	}
	for _, i := range []int{-1, 3, 1 << 62, -1 << 62} {
		l, e := n.At(i)
		m, f := n.Take(i)
		if e != api.ErrRange || f != api.ErrRange || l.Frame != nil || m.Frame != nil || n.Drop(i) != api.ErrRange || n.Double(i) != api.ErrRange || n.Spoil(i, 0, 0) != api.ErrRange || n.Len() != 3 {
			t.Error(i, e, f)
		}
	}
}

// P28.2, P28.3
func TestTakeDropDoubleSpoil(t *testing.T) {
	var n Net
	n.Send(0, []byte{1, 2, 3})
	if n.Double(0) != api.OK || n.Spoil(0, 2, 255) != api.OK || n.Drop(1) != api.OK || told(&n) != "0[1 2 252]! " || n.Spoil(0, 0, 1) != api.ErrState {
		t.Error(told(&n))
	}
	n.Send(1, []byte{5})
	n.Double(0)
	n.Double(1)
	if told(&n) != "0[1 2 252]! 1[5] 0[1 2 252]! 1[5] " || n.Spoil(2, 0, 1) != api.ErrState {
		t.Error(told(&n))
	}
	if n.Spoil(1, 0, 1) != api.OK || told(&n) != "0[1 2 252]! 1[4]! 0[1 2 252]! 1[5] " {
		t.Error("what it was doubled to is spoilt, too", told(&n))
	}
	for _, x := range []struct {
		i, at int
		mask  byte
		e     api.Errno
	}{{3, -1, 0, api.ErrRange}, {3, 1, 1, api.ErrRange}, {3, 0, 0, api.ErrArg}, {0, 3, 1, api.ErrRange}, {0, 0, 0, api.ErrArg}, {0, 0, 1, api.ErrState}} {
		if e := n.Spoil(x.i, x.at, x.mask); e != x.e || told(&n) != "0[1 2 252]! 1[4]! 0[1 2 252]! 1[5] " {
			t.Error(x, e)
		}
	}
	l, e := n.Take(1)
	if e != api.OK || l.To != 1 || !l.Spoilt || l.Frame[0] != 4 || told(&n) != "0[1 2 252]! 0[1 2 252]! 1[5] " {
		t.Error(l, told(&n))
	}
	if n.Drop(0) != api.OK || told(&n) != "0[1 2 252]! 1[5] " || n.Drop(1) != api.OK || n.Drop(0) != api.OK || n.Len() != 0 {
		t.Error(told(&n))
	}
}

// P28.4
func TestCopyNil(t *testing.T) {
	var n Net
	n.Send(0, []byte{1})
	n.Send(1, []byte{2})
	c := n.Copy()
	c.Spoil(0, 0, 7)
	n.Drop(1)
	c.Send(2, nil)
	n.Send(3, nil)
	if told(&n) != "0[1] 3[] " || told(c) != "0[6]! 1[2] 2[] " {
		t.Error(told(&n), told(c))
	}
	var none *Net
	_, e := none.At(0)
	_, f := none.Take(0)
	if none.Send(0, nil) != api.ErrNil || none.Len() != 0 || e != api.ErrNil || none.All() != nil || f != api.ErrNil || none.Drop(0) != api.ErrNil || none.Double(0) != api.ErrNil || none.Spoil(0, -1, 0) != api.ErrNil || none.Count(0) != 0 || none.Copy() != nil {
		t.Error("of nil")
	}
}

// P28.5
func TestWhatFollows(t *testing.T) {
	rnd := rand.New(rand.NewSource(31))
	var n Net
	sent := map[uint64][]byte{}
	next := uint64(0)
	for range 5000 {
		i := rnd.Intn(8) - 1
		switch rnd.Intn(6) {
		case 0, 1:
			b, _ := frame.Frame(byte(1+rnd.Intn(4)), []byte(fmt.Sprint(rnd.Int63())))
			sent[next] = b
			n.Send(next, b)
			next++
		case 2:
			n.Double(i)
		case 3:
			n.Spoil(i, rnd.Intn(20), byte(rnd.Intn(256)))
		case 4:
			n.Drop(i)
		case 5:
			l, e := n.Take(i)
			if e != api.OK {
				continue
			}
			unlike := 0
			for j, c := range l.Frame {
				if c != sent[l.To][j] {
					unlike++
				}
			}
			_, _, e = frame.Open(l.Frame)
			if len(l.Frame) != len(sent[l.To]) || l.Spoilt != (unlike == 1) || unlike > 1 || l.Spoilt != (e == api.ErrSum) {
				t.Fatal(l, unlike, e)
			}
		}
	}
}
