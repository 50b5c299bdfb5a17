package diff

import (
	"fmt"
	"math/rand"
	"reflect"
	"testing"

	"commonplace/api"
	"commonplace/tree"
	"commonplace/value"
)

func num(i int) api.Value { return api.Value{Kind: api.Int, Int: int64(i)} }

func of(l ...any) tree.Tree {
	var t tree.Tree
	for i := 0; i < len(l); i += 2 {
		t = t.Put(l[i].(string), num(l[i+1].(int)))
	}
	return t
}

// P9.1
func TestChanges(t *testing.T) {
	a, b := of("x", 1, "y", 2), of("y", 3, "z", 4)
	want := []api.Change{
		{Key: "x", Had: true, Was: num(1)},
		{Key: "y", Had: true, Was: num(2), Has: true, Is: num(3)},
		{Key: "z", Has: true, Is: num(4)},
	}
	if got := Changes(a, b); !reflect.DeepEqual(got, want) {
		t.Error(got)
	}
	if n, looked := Count(a, b); n != 3 || looked != 2 {
		t.Error(n, looked)
	}
	seq := Diff(a, b)
	for most := range 3 {
		n := 0
		for c := range seq {
			if !reflect.DeepEqual(c, want[n]) {
				t.Error(c)
			}
			n++
			if n > most {
				break
			}
		}
		if n != most+1 {
			t.Error(n)
		}
	}
	if got := Changes(a, of("x", 1, "y", 2)); len(got) != 0 {
		t.Error("equal values are told", got)
	}
	if got := Changes(tree.Tree{}, tree.Tree{}); len(got) != 0 {
		t.Error(got)
	}
	if n, looked := Count(tree.Tree{}, a); n != 2 || looked != 1 {
		t.Error(n, looked)
	}
	odd := tree.Tree{}.Put("", api.Value{}).Put("k", api.Value{Kind: 70})
	if n, _ := Count(odd, odd.Put("k", api.Value{Kind: 70, Int: 3})); n != 0 {
		t.Error("values of no Kind are the same")
	}
	if got := Changes(odd, tree.Tree{}); len(got) != 2 || !got[0].Had || got[0].Key != "" || got[0].Has {
		t.Error(got)
	}
}

func TestNewMemory(t *testing.T) {
	a := tree.Tree{}.Put("k", api.Value{Kind: api.List, List: []api.Value{num(1)}})
	l := Changes(tree.Tree{}, a)
	l[0].Is.List[0] = num(2)
	if v, _ := a.Get("k"); v.List[0].Int != 1 {
		t.Error("memory is shared with the tree")
	}
	l = Changes(a, tree.Tree{})
	back := Back(l...)
	back[0].Is.List[0] = num(3)
	if l[0].Was.List[0].Int != 1 {
		t.Error("memory is shared with what was handed in")
	}
	l = Changes(tree.Tree{}, a)
	Back(l...)[0].Was.List[0] = num(3)
	if l[0].Is.List[0].Int != 1 {
		t.Error("memory is shared with what was handed in")
	}
	c := api.Change{Key: "j", Has: true, Is: api.Value{Kind: api.List, List: []api.Value{num(1)}}}
	b, _ := Apply(a, c)
	c.Is.List[0] = num(9)
	if v, _ := b.Get("j"); v.List[0].Int != 1 {
		t.Error("what was handed in is kept")
	}
}

// P9.2
func TestApplyBack(t *testing.T) {
	a := of("x", 1, "y", 2)
	for i, l := range [][]api.Change{
		{{Key: "x", Has: true, Is: num(3)}},
		{{Key: "z", Had: true, Was: num(1)}},
		{{Key: "x", Had: true, Was: num(2)}},
		{{Key: "x", Had: true, Was: num(1), Has: true, Is: num(1)}},
		{{Key: "z"}},
		{{Key: "z", Is: num(1)}},
		{{Key: "x", Has: true, Is: num(1)}},
		{{Key: "z", Had: true, Was: num(1), Has: true, Is: num(2)}},
		{{Key: "x", Had: true, Was: num(1)}, {Key: "x", Had: true, Was: num(1)}},
	} {
		if b, e := Apply(a, l...); e != api.ErrState || b.Root() != nil {
			t.Error(i, e)
		}
	}
	b, e := Apply(a, api.Change{Key: "x", Had: true, Was: num(1)}, api.Change{Key: "x", Has: true, Is: num(7)}, api.Change{Key: "x", Had: true, Was: num(7), Has: true, Is: num(8)})
	if e != api.OK || !b.Same(of("x", 8, "y", 2)) {
		t.Error(e)
	}
	if b, e := Apply(a); e != api.OK || !b.Is(a) {
		t.Error(e)
	}
	got := Back(api.Change{Key: "x", Had: true, Was: num(1)}, api.Change{Key: "z", Has: true, Is: num(4)})
	if want := []api.Change{{Key: "z", Had: true, Was: num(4)}, {Key: "x", Has: true, Is: num(1)}}; !reflect.DeepEqual(got, want) {
		t.Error(got)
	}
	if len(Back()) != 0 {
		t.Error("of none")
	}
}

// P9.3
func TestWhatFollows(t *testing.T) {
	rnd := rand.New(rand.NewSource(10))
	for round := range 400 {
		var a tree.Tree
		for range rnd.Intn(400) {
			a = a.Put(fmt.Sprint(rnd.Intn(600)), num(rnd.Intn(3)))
		}
		b := a
		for range rnd.Intn(1 << rnd.Intn(9)) {
			if k := fmt.Sprint(rnd.Intn(600)); rnd.Intn(2) == 0 {
				b = b.Put(k, num(rnd.Intn(3)))
			} else {
				b, _ = b.Delete(k)
			}
		}
		if round%10 == 0 {
			b = tree.Build(b.Entries()...)
		}
		l := Changes(a, b)
		for i, c := range l {
			v, ok := a.Get(c.Key)
			w, in := b.Get(c.Key)
			if i > 0 && l[i-1].Key >= c.Key || ok != c.Had || in != c.Has || ok && !value.Same(v, c.Was) || in && !value.Same(w, c.Is) || ok && in && value.Same(v, w) {
				t.Fatal("not a change", c)
			}
		}
		if c, e := Apply(a, l...); e != api.OK || !c.Same(b) {
			t.Fatal("there", e)
		}
		if c, e := Apply(b, Back(l...)...); e != api.OK || !c.Same(a) {
			t.Fatal("back", e)
		}
		n, looked := Count(a, b)
		if n != len(l) || looked > tree.Fresh(a, b)+tree.Fresh(b, a) {
			t.Fatal(n, looked, tree.Fresh(a, b), tree.Fresh(b, a))
		}
		if n, looked := Count(a, a); n != 0 || looked != 0 {
			t.Fatal("of itself", n, looked)
		}
	}
}
