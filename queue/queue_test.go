package queue

import (
	"fmt"
	"math/rand"
	"reflect"
	"testing"

	"commonplace/api"
)

func mut(k string) api.Mutator { return api.Mutator{Kind: api.MutDel, Key: k} }

func n(id uint64, k string) api.Numbered { return api.Numbered{ID: id, Mutator: mut(k)} }

func told(l []api.Numbered) string {
	s := ""
	for _, n := range l {
		s += fmt.Sprint(n.ID, n.Mutator.Key, " ")
	}
	return s
}

func listed() api.Mutator {
	return api.Mutator{Kind: api.MutPut, Key: "l", Value: api.Value{Kind: api.List, List: []api.Value{{Kind: api.Null}}}}
}

// P23.1
func TestOf(t *testing.T) {
	const max = api.MaxNumber
	for i, x := range []struct {
		last, next uint64
		l          []api.Numbered
		e          api.Errno
	}{
		{0, 1, nil, api.OK}, {3, 4, nil, api.OK}, {3, 6, []api.Numbered{n(4, "a"), n(5, "b")}, api.OK}, {max, max + 1, nil, api.OK}, {max - 1, max + 1, []api.Numbered{n(max, "a")}, api.OK},
		{max + 1, max + 2, nil, api.ErrNum}, {max + 1, 5, nil, api.ErrNum}, {0, 0, nil, api.ErrNum}, {max, max + 2, nil, api.ErrNum}, {0, 0, []api.Numbered{n(9, "a")}, api.ErrNum},
		{3, 5, nil, api.ErrGap}, {3, 3, nil, api.ErrGap}, {3, 2, nil, api.ErrGap}, {3, 6, []api.Numbered{n(5, "b"), n(4, "a")}, api.ErrGap}, {3, 5, []api.Numbered{n(4, "a"), n(5, "b")}, api.ErrGap}, {3, 6, []api.Numbered{n(4, "a")}, api.ErrGap}, {3, 6, []api.Numbered{n(4, "a"), n(4, "a")}, api.ErrGap}, {3, 5, []api.Numbered{n(3, "a")}, api.ErrGap},
	} {
		q, e := Of(x.last, x.next, x.l...)
		if e != x.e || (e == api.OK) != (q != nil) {
			t.Error(i, e)
		}
		if e == api.OK && (q.Last() != x.last || q.Next() != x.next || told(q.All()) != told(x.l)) {
			t.Error(i, q)
		}
	}
	l := []api.Numbered{{ID: 1, Mutator: listed()}}
	q, _ := Of(0, 2, l...)
	l[0].Mutator.Value.List[0].Kind = api.Int
	if q.All()[0].Mutator.Value.List[0].Kind != api.Null {
		t.Error("what was handed in is kept")
	}
}

func TestAddCut(t *testing.T) {
	var q Queue
	for i, k := range []string{"a", "b", "c"} {
		if id, e := q.Add(mut(k)); id != uint64(i+1) || e != api.OK {
			t.Error(id, e)
		}
	}
	if q.Next() != 4 || told(q.Batch(5, 3)) != "1a 2b " || q.Cut(2) != api.OK || told(q.All()) != "3c " || q.Last() != 2 || q.Len() != 1 {
		t.Error(q)
	}
	if id, e := q.Add(mut("d")); id != 4 || e != api.OK {
		t.Error(id, e)
	}
	before := q.Copy()
	if q.Cut(1) != api.ErrOld || q.Cut(5) != api.ErrRange || q.Cut(1<<64-1) != api.ErrRange || !reflect.DeepEqual(&q, before) {
		t.Error("Cut")
	}
	if q.Cut(2) != api.OK || told(q.All()) != "3c 4d " || q.Cut(4) != api.OK || q.Len() != 0 || q.Next() != 5 || q.Cut(4) != api.OK {
		t.Error("Cut")
	}
	nearly, _ := Of(api.MaxNumber-1, api.MaxNumber)
	if id, e := nearly.Add(mut("a")); id != api.MaxNumber || e != api.OK {
		t.Error(id, e)
	}
	full, _ := Of(api.MaxNumber, api.MaxNumber+1)
	if id, e := full.Add(mut("a")); id != 0 || e != api.ErrNum || full.Len() != 0 {
		t.Error(id, e)
	}
	if id, e := q.Add(api.Mutator{Kind: 99}); id != 5 || e != api.OK {
		t.Error("mutators are not looked at", e)
	}
	m := listed()
	q.Add(m)
	m.Value.List[0].Kind = api.Int
	if got, _ := q.Find(6); got.Value.List[0].Kind != api.Null {
		t.Error("what was handed in is kept")
	}
}

// P23.2
func TestLooks(t *testing.T) {
	q, _ := Of(3, 7, n(4, "a"), n(5, "b"), api.Numbered{ID: 6, Mutator: listed()})
	for i, x := range []struct {
		n     int
		below uint64
		want  string
	}{{0, 9, ""}, {-1, 9, ""}, {1, 9, "4a "}, {9, 9, "4a 5b 6l "}, {9, 6, "4a 5b "}, {9, 4, ""}, {9, 0, ""}, {9, 3, ""}, {1 << 62, 1<<64 - 1, "4a 5b 6l "}, {-1 << 62, 7, ""}} {
		if s := told(q.Batch(x.n, x.below)); s != x.want {
			t.Error(i, s)
		}
	}
	for id, want := range map[uint64]string{4: "a", 6: "l"} {
		if m, e := q.Find(id); m.Key != want || e != api.OK {
			t.Error(id, e)
		}
	}
	for _, id := range []uint64{0, 3, 7, 1<<64 - 1} {
		if m, e := q.Find(id); m.Kind != 0 || e != api.ErrNone {
			t.Error(id, e)
		}
	}
	q.All()[2].Mutator.Value.List[0].Kind = api.Int
	q.Batch(9, 9)[2].Mutator.Value.List[0].Kind = api.Int
	m, _ := q.Find(6)
	m.Value.List[0].Kind = api.Int
	if m, _ := q.Find(6); m.Value.List[0].Kind != api.Null {
		t.Error("memory is shared")
	}
	var none *Queue
	id, e := none.Add(mut("a"))
	_, f := none.Find(1)
	if id != 0 || e != api.ErrNil || f != api.ErrNil || none.Cut(0) != api.ErrNil || none.Last() != 0 || none.Next() != 0 || none.Len() != 0 || len(none.All()) != 0 || len(none.Batch(1, 1)) != 0 || none.Copy() != nil {
		t.Error("of nil")
	}
	var zero Queue
	if zero.Last() != 0 || zero.Next() != 1 || zero.Len() != 0 || len(zero.All()) != 0 {
		t.Error("a zero one")
	}
}

// P23.3
func TestCopy(t *testing.T) {
	q, _ := Of(3, 6, n(4, "a"), n(5, "b"))
	c := q.Copy()
	q.Add(mut("q"))
	c.Add(mut("c"))
	c.Cut(4)
	if told(q.All()) != "4a 5b 6q " || told(c.All()) != "5b 6c " || q.Last() != 3 || c.Last() != 4 {
		t.Error(told(q.All()), told(c.All()))
	}
}

// P23.4
func TestWhatFollows(t *testing.T) {
	rnd := rand.New(rand.NewSource(26))
	var q Queue
	next := uint64(1)
	for range 3000 {
		if rnd.Intn(3) > 0 {
			if id, e := q.Add(mut(fmt.Sprint(rnd.Intn(9)))); id != next || e != api.OK {
				t.Fatal(id, e)
			}
			next++
		}
		r, e := Of(q.Last(), q.Next(), q.All()...)
		if e != api.OK || r.Last() != q.Last() || r.Next() != q.Next() || told(r.All()) != told(q.All()) {
			t.Fatal(e)
		}
		if rnd.Intn(3) == 0 {
			all := told(q.All())
			last := q.Last() + uint64(rnd.Intn(q.Len()+1))
			ahead := told(q.Batch(q.Len(), last+1))
			if e := q.Cut(last); e != api.OK || ahead+told(q.All()) != all || q.Last() != last {
				t.Fatal(all, ahead, e)
			}
		}
	}
}
