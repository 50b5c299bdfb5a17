package subs

import (
	"fmt"
	"math/rand"
	"reflect"
	"testing"

	"commonplace/api"
	"commonplace/tree"
	"commonplace/value"
)

func num(i int) api.Value { return api.Value{Kind: api.Int, Int: int64(i)} }

func prefix(p string) api.Query { return api.Query{Kind: api.QueryPrefix, Lo: p} }

func between(lo, hi string) api.Query { return api.Query{Kind: api.QueryRange, Lo: lo, Hi: hi} }

func from(lo string) api.Query { return api.Query{Kind: api.QueryRange, Lo: lo, Open: true} }

func of(l ...any) tree.Tree {
	var t tree.Tree
	for i := 0; i < len(l); i += 2 {
		t = t.Put(l[i].(string), num(l[i+1].(int)))
	}
	return t
}

// P27.1
func TestMayIn(t *testing.T) {
	for _, q := range []api.Query{prefix(""), prefix("\xff"), between("a", "b"), between("b", "a"), between("", ""), from("")} {
		if e := May(q); e != api.OK {
			t.Error(q, e)
		}
	}
	var r Registry
	for _, q := range []api.Query{{}, {Kind: 3}, {Kind: -1}, {Kind: api.QueryPrefix, Hi: "b"}, {Kind: api.QueryPrefix, Open: true}, {Kind: api.QueryRange, Hi: "b", Open: true}} {
		if e := May(q); e != api.ErrArg || In(q, "a") || In(q, "") {
			t.Error(q, e)
		}
		if id, e := r.Add(q); id != 0 || e != api.ErrArg {
			t.Error(q, e)
		}
	}
	for _, x := range []struct {
		q   api.Query
		key string
		ok  bool
	}{
		{prefix("a/"), "a/1", true}, {prefix("a/"), "a/", true}, {prefix("a/"), "a", false}, {prefix("a/"), "a0", false}, {prefix(""), "", true}, {prefix("\xff"), "\xff\xff", true}, {prefix("\xff"), "\xfe", false},
		{between("a", "b"), "a", true}, {between("a", "b"), "b", false}, {between("a", "b"), "a/1", true}, {between("b", "a"), "aa", false}, {between("", ""), "", false}, {from("b"), "b", true}, {from("b"), "z", true}, {from("b"), "a", false},
	} {
		if In(x.q, x.key) != x.ok {
			t.Error(x)
		}
	}
}

// P27.2
func TestAddDropLive(t *testing.T) {
	var r Registry
	for want := uint64(1); want <= 3; want++ {
		if id, e := r.Add(prefix("a")); id != want || e != api.OK {
			t.Error(id, e)
		}
	}
	if r.Drop(2) != api.OK || r.Drop(2) != api.ErrNone || r.Drop(0) != api.ErrNone || r.Drop(9) != api.ErrNone || r.Drop(3) != api.OK {
		t.Error("Drop")
	}
	if id, e := r.Add(from("")); id != 4 || e != api.OK {
		t.Error("a number is used again", id, e)
	}
	if !reflect.DeepEqual(r.Live(), []uint64{1, 4}) {
		t.Error(r.Live())
	}
	r.Live()[0] = 9
	if !reflect.DeepEqual(r.Live(), []uint64{1, 4}) {
		t.Error("memory is shared")
	}
	if _, e := r.Result(2); e != api.ErrNone {
		t.Error(e)
	}
	var none *Registry
	id, e := none.Add(api.Query{})
	l, f := none.Result(1)
	if id != 0 || e != api.ErrNil || l != nil || f != api.ErrNil || none.Drop(1) != api.ErrNil || none.Live() != nil || none.Head().Root() != nil || none.After(of("a", 1)) != nil {
		t.Error("of nil")
	}
	var zero Registry
	if len(zero.Live()) != 0 || zero.Drop(1) != api.ErrNone || zero.Head().Root() != nil {
		t.Error("a zero one")
	}
}

// P27.3
func TestHeadResult(t *testing.T) {
	var r Registry
	r.Add(prefix("a/"))
	head := of("a", 0, "a/1", 1, "a/2", 2, "b", 3)
	r.After(head)
	r.Add(between("a", "a/2"))
	r.Add(from("a/2"))
	r.Add(prefix("x"))
	if !r.Head().Is(head) {
		t.Error("Head")
	}
	for id, want := range map[uint64]string{1: "a/1 a/2 ", 2: "a a/1 ", 3: "a/2 b ", 4: ""} {
		l, e := r.Result(id)
		s := ""
		for _, x := range l {
			s += x.Key + " "
		}
		if s != want || e != api.OK {
			t.Error(id, s, e)
		}
	}
	deep := tree.Tree{}.Put("a/", api.Value{Kind: api.List, List: []api.Value{num(1)}})
	r.After(deep)
	l, _ := r.Result(1)
	l[0].Value.List[0] = num(2)
	if v, _ := r.Head().Get("a/"); v.List[0].Int != 1 {
		t.Error("memory is shared")
	}
}

// P27.4
func TestAfter(t *testing.T) {
	var r Registry
	r.Add(prefix("a/"))
	r.Add(between("a", "b"))
	has := api.Change{Key: "a/1", Has: true, Is: num(5)}
	had := api.Change{Key: "a/1", Had: true, Was: num(5)}
	if l := r.After(of("a/1", 5, "b", 6)); !reflect.DeepEqual(l, []api.Event{{ID: 1, Change: has}, {ID: 2, Change: has}}) {
		t.Error(l)
	}
	if l := r.After(of("a/1", 5, "b", 7)); len(l) != 0 {
		t.Error(l)
	}
	if l := r.After(of("b", 7)); !reflect.DeepEqual(l, []api.Event{{ID: 1, Change: had}, {ID: 2, Change: had}}) {
		t.Error(l)
	}
	r.Drop(1)
	deep := tree.Tree{}.Put("a/", api.Value{Kind: api.List, List: []api.Value{num(1)}})
	r.Add(prefix(""))
	l := r.After(deep)
	if len(l) != 3 || l[0].ID != 2 || l[1].ID != 3 || l[1].Change.Key != "a/" || l[2].Change.Key != "b" {
		t.Fatal(l)
	}
	l[0].Change.Is.List[0] = num(9)
	if v, _ := r.Head().Get("a/"); v.List[0].Int != 1 || l[1].Change.Is.List[0].Int != 1 {
		t.Error("memory is shared")
	}
}

// P27.5, P0.6
func TestWhatFollows(t *testing.T) {
	rnd := rand.New(rand.NewSource(30))
	queries := []api.Query{prefix("1"), prefix(""), between("2", "5"), from("7"), between("5", "2"), prefix("33")}
	for range 30 {
		var r Registry
		shown := map[uint64]map[string]int64{}
		single := map[uint64]*Registry{}
		head := tree.Tree{}
		for range 40 {
			if rnd.Intn(4) == 0 {
				q := queries[rnd.Intn(len(queries))]
				id, _ := r.Add(q)
				l, _ := r.Result(id)
				shown[id] = map[string]int64{}
				for _, x := range l {
					shown[id][x.Key] = x.Value.Int
				}
				single[id] = &Registry{}
				single[id].After(head)
				single[id].Add(q)
			}
			for range rnd.Intn(12) {
				if k := fmt.Sprint(rnd.Intn(90)); rnd.Intn(3) > 0 {
					head = head.Put(k, num(rnd.Intn(3)))
				} else {
					head, _ = head.Delete(k)
				}
			}
			if rnd.Intn(5) == 0 {
				head = tree.Build(head.Entries()...)
			}
			events := r.After(head)
			for i, e := range events {
				if i > 0 && (events[i-1].ID > e.ID || events[i-1].ID == e.ID && events[i-1].Change.Key >= e.Change.Key) {
					t.Fatal("not in order")
				}
				c := e.Change
				was, had := shown[e.ID][c.Key]
				if had != c.Had || had && was != c.Was.Int || c.Had && c.Has && value.Same(c.Was, c.Is) {
					t.Fatal(e)
				}
				if c.Has {
					shown[e.ID][c.Key] = c.Is.Int
				} else {
					delete(shown[e.ID], c.Key)
				}
			}
			for _, id := range r.Live() {
				l, _ := r.Result(id)
				if len(l) != len(shown[id]) {
					t.Fatal(id, len(l), len(shown[id]))
				}
				for _, x := range l {
					if v, ok := shown[id][x.Key]; !ok || v != x.Value.Int {
						t.Fatal(id, x)
					}
				}
				var own []api.Change
				for _, e := range events {
					if e.ID == id {
						own = append(own, e.Change)
					}
				}
				alone := single[id].After(head)
				for i, e := range alone {
					if !reflect.DeepEqual(e.Change, own[i]) {
						t.Fatal("hangs on others")
					}
				}
				if len(alone) != len(own) {
					t.Fatal("hangs on others")
				}
			}
			if l := r.After(tree.Build(head.Entries()...)); len(l) != 0 {
				t.Fatal("told of what is the same", l)
			}
		}
	}
}
