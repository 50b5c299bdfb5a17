package log

import (
	"fmt"
	"math/rand"
	"testing"

	"commonplace/api"
	"commonplace/tree"
)

func of(i int) tree.Tree {
	return tree.Tree{}.Put("n", api.Value{Kind: api.Int, Int: int64(i)})
}

func made(t *testing.T, keep int) *Log {
	t.Helper()
	l, e := New(keep)
	if e != api.OK {
		t.Fatal(e)
	}
	return l
}

// P19.1, P19.2
func TestPutAt(t *testing.T) {
	for _, keep := range []int{0, -1, 1025} {
		if l, e := New(keep); l != nil || e != api.ErrArg {
			t.Error(keep, e)
		}
	}
	if l, e := New(1024); l == nil || e != api.OK {
		t.Error(e)
	}
	l := made(t, 2)
	if _, ok := l.Newest(); ok || l.Len() != 0 {
		t.Error("a new one has versions")
	}
	if _, ok := l.At(0); ok {
		t.Error("a new one has versions")
	}
	trees := map[uint64]tree.Tree{5: of(5), 6: of(6), 7: of(7)}
	for v := uint64(5); v <= 7; v++ {
		if e := l.Put(v, trees[v]); e != api.OK {
			t.Error(v, e)
		}
	}
	oldest, ok1 := l.Oldest()
	newest, ok2 := l.Newest()
	if oldest != 6 || newest != 7 || !ok1 || !ok2 || l.Len() != 2 {
		t.Error(oldest, newest, l.Len())
	}
	for v := uint64(4); v <= 9; v++ {
		a, ok := l.At(v)
		if ok != (v == 6 || v == 7) || ok && !a.Is(trees[v]) || !ok && a.Root() != nil {
			t.Error(v, ok)
		}
	}
	for v, want := range map[uint64]api.Errno{7: api.ErrOld, 0: api.ErrOld, 9: api.ErrGap, api.MaxNumber: api.ErrGap, api.MaxNumber + 1: api.ErrNum, 1<<64 - 1: api.ErrNum} {
		if e := l.Put(v, of(1)); e != want {
			t.Error(v, e)
		}
	}
	if n, _ := l.Newest(); n != 7 || l.Len() != 2 {
		t.Error("what was refused was put")
	}
	if m := made(t, 3); m.Put(api.MaxNumber, of(1)) != api.OK || m.Put(api.MaxNumber+1, of(1)) != api.ErrNum {
		t.Error("at the greatest number")
	} else if _, ok := m.At(api.MaxNumber); !ok {
		t.Error("at the greatest number")
	}
	if m := made(t, 3); m.Put(5, of(0)) != api.OK || m.Put(7, of(0)) != api.ErrGap || m.Put(4, of(0)) != api.ErrOld || m.Len() != 1 {
		t.Error("a gap behind the first one")
	}
	if m := made(t, 3); m.Put(0, of(0)) != api.OK || m.Put(0, of(0)) != api.ErrOld || m.Put(1, of(1)) != api.OK {
		t.Error("version 0")
	}
}

func TestNilAndZero(t *testing.T) {
	for _, l := range []*Log{nil, {}} {
		if l.Put(1<<63, of(1)) != api.ErrNil || l.Len() != 0 {
			t.Error("Put")
		}
		_, ok1 := l.At(0)
		newest, ok2 := l.Newest()
		oldest, ok3 := l.Oldest()
		since, ok4 := l.Since(0)
		if ok1 || ok2 || ok3 || ok4 || newest+oldest+since != 0 {
			t.Error("looks")
		}
		for range l.All() {
			t.Error("All")
		}
		if c := l.Copy(); (c == nil) != (l == nil) {
			t.Error("Copy")
		}
	}
}

func told(l *Log) string {
	s := ""
	for v, a := range l.All() {
		n, _ := a.Get("n")
		s += fmt.Sprint(v, "=", n.Int, " ")
	}
	return s
}

// P19.3
func TestAllSinceCopy(t *testing.T) {
	l := made(t, 4)
	one, two := of(1), of(2)
	seq := l.All()
	for v, a := range []tree.Tree{of(0), one, one, two, two, one} {
		l.Put(uint64(10+v), a)
	}
	if s := told(l); s != "12=1 13=2 14=2 15=1 " {
		t.Error(s)
	}
	for range 2 {
		n := 0
		for v := range seq {
			if v != uint64(12+n) {
				t.Error(v)
			}
			n++
			if n == 2 {
				break
			}
		}
		if n != 2 {
			t.Error(n)
		}
	}
	for v, want := range map[uint64]uint64{12: 12, 13: 13, 14: 13, 15: 15} {
		if got, ok := l.Since(v); got != want || !ok {
			t.Error(v, got, ok)
		}
	}
	for _, v := range []uint64{0, 11, 16, 1 << 63} {
		if got, ok := l.Since(v); got != 0 || ok {
			t.Error(v, got, ok)
		}
	}
	c := l.Copy()
	c.Put(16, of(7))
	if told(l) != "12=1 13=2 14=2 15=1 " || told(c) != "13=2 14=2 15=1 16=7 " {
		t.Error(told(l), told(c))
	}
	l.Put(16, of(8))
	if told(c) != "13=2 14=2 15=1 16=7 " {
		t.Error(told(c))
	}
	n := 0
	for v, a := range l.All() {
		l.Put(v+10, of(9))
		l.Put(17+uint64(n), of(9))
		if x, _ := a.Get("n"); x.Int == 9 {
			t.Error("not what was kept when it was begun", v)
		}
		n++
	}
	if n != 4 {
		t.Error(n)
	}
}

// P19.4
func TestWhatFollows(t *testing.T) {
	rnd := rand.New(rand.NewSource(22))
	for range 60 {
		keep, first := 1+rnd.Intn(9), uint64(rnd.Intn(50))
		l := made(t, keep)
		var all []tree.Tree
		for i := range rnd.Intn(40) {
			a := of(i)
			if len(all) > 0 && rnd.Intn(2) == 0 {
				a = all[i-1]
			}
			all = append(all, a)
			if e := l.Put(first+uint64(i), a); e != api.OK {
				t.Fatal(e)
			}
			if l.Len() != min(keep, len(all)) {
				t.Fatal(l.Len())
			}
			for j, b := range all {
				v := first + uint64(j)
				got, ok := l.At(v)
				if kept := j >= len(all)-keep; ok != kept || kept && !got.Is(b) {
					t.Fatal(v, ok)
				}
				since, ok2 := l.Since(v)
				want := j
				for want > max(0, len(all)-keep) && all[want-1].Is(b) {
					want--
				}
				if ok2 != ok || ok && since != first+uint64(want) {
					t.Fatal(v, since)
				}
			}
		}
	}
}
