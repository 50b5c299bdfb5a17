package node

import (
	"fmt"
	"reflect"
	"testing"

	"commonplace/api"
)

func entry(k string) api.Entry {
	return api.Entry{Key: k, Value: api.Value{Kind: api.List, List: []api.Value{{Kind: api.Int, Int: int64(len(k))}}}}
}

func entries(keys ...string) []api.Entry {
	var l []api.Entry
	for _, k := range keys {
		l = append(l, entry(k))
	}
	return l
}

func leaf(t *testing.T, keys ...string) *Node {
	t.Helper()
	n, e := Leaf(entries(keys...)...)
	if e != api.OK {
		t.Fatal(keys, e)
	}
	return n
}

func inner(t *testing.T, kids ...*Node) *Node {
	t.Helper()
	n, e := Inner(kids...)
	if e != api.OK {
		t.Fatal(e)
	}
	return n
}

// P6.1
func TestLeaf(t *testing.T) {
	for _, keys := range [][]string{{"b", "a"}, {"a", "a"}, {"a", "c", "b"}, {"1", "2", "3", "4", "5", "6", "7", "8", "9"}, {"", ""}} {
		if n, e := Leaf(entries(keys...)...); n != nil || e != api.ErrArg {
			t.Error(keys, e)
		}
	}
	for _, keys := range [][]string{nil, {""}, {"a"}, {"", "\x00", "\xff"}, {"1", "2", "3", "4", "5", "6", "7", "8"}} {
		in := entries(keys...)
		n, e := Leaf(in...)
		if e != api.OK || n.Count() != len(keys) || n.Size() != len(keys) || n.Height() != 0 || !reflect.DeepEqual(n.Entries(), in) {
			t.Error(keys, e)
		}
		if len(in) > 0 {
			in[0].Key, in[0].Value.List[0].Int = "changed", 99
			n.Entries()[0].Value.List[0].Int = 98
			first, _ := n.Entry(0)
			first.Value.List[0].Int = 97
			if x, _ := n.Entry(0); x.Key != keys[0] || x.Value.List[0].Int != int64(len(keys[0])) {
				t.Error("memory is shared", x)
			}
		}
	}
	odd := api.Entry{Key: "\xff", Value: api.Value{Kind: 77, Text: "\xff"}}
	if n, e := Leaf(odd); e != api.OK || !reflect.DeepEqual(n.Entries(), []api.Entry{odd}) {
		t.Error("values are not looked at", e)
	}
}

func TestInner(t *testing.T) {
	ab, c, d := leaf(t, "a", "b"), leaf(t, "c"), leaf(t, "d")
	n := inner(t, ab, c)
	if n.Height() != 1 || n.Count() != 3 || n.Size() != 2 || n.First() != "a" || n.Last() != "c" || n.Nodes() != 3 {
		t.Error(n.Height(), n.Count(), n.First(), n.Last())
	}
	for i, kids := range [][]*Node{nil, {ab}, {c, ab}, {ab, ab}, {ab, leaf(t, "b", "c")}, {ab, leaf(t)}, {leaf(t), ab}, {ab, nil}, {nil, ab}, {ab, n}, {n, d}, {&Node{}, ab},
		{leaf(t, "1"), leaf(t, "2"), leaf(t, "3"), leaf(t, "4"), leaf(t, "5"), leaf(t, "6"), leaf(t, "7"), leaf(t, "8"), leaf(t, "9")}} {
		if m, e := Inner(kids...); m != nil || e != api.ErrArg {
			t.Error(i, e)
		}
	}
	kids := []*Node{ab, c, d}
	m := inner(t, kids...)
	kids[0] = d
	m.Kids()[1] = d
	if l := m.Kids(); len(l) != 3 || l[0] != ab || l[1] != c || l[2] != d {
		t.Error("kids are not themselves, or memory is shared")
	}
	eight := inner(t, leaf(t, "1"), leaf(t, "2"), leaf(t, "3"), leaf(t, "4"), leaf(t, "5"), leaf(t, "6"), leaf(t, "7"), leaf(t, "8"))
	if eight.Size() != 8 || inner(t, eight, inner(t, ab, c)).Height() != 2 {
		t.Error("eight kids")
	}
}

func TestOfShape(t *testing.T) {
	ab, c := api.Shape{Entries: entries("a", "b")}, api.Shape{Entries: entries("c")}
	n, e := Of(api.Shape{Kids: []api.Shape{ab, c}})
	if e != api.OK || n.Height() != 1 || n.Count() != 3 {
		t.Fatal(e)
	}
	if s := n.Shape(); !reflect.DeepEqual(s, api.Shape{Kids: []api.Shape{ab, c}}) {
		t.Error(s)
	}
	n.Shape().Kids[0].Entries[0].Value.List[0].Int = 9
	if n.Shape().Kids[0].Entries[0].Value.List[0].Int != 1 {
		t.Error("memory is shared")
	}
	if n, e := Of(api.Shape{}); e != api.OK || n.Count() != 0 || n.Size() != 0 || n.Nodes() != 1 {
		t.Error("an empty leaf", e)
	}
	for i, s := range []api.Shape{
		{Entries: entries("a"), Kids: []api.Shape{ab, c}}, {Kids: []api.Shape{ab}}, {Kids: []api.Shape{ab, {}}}, {Kids: []api.Shape{c, ab}}, {Entries: entries("b", "a")},
		{Kids: []api.Shape{ab, {Kids: []api.Shape{c, {Entries: entries("d")}}}}}, {Kids: []api.Shape{ab, {Entries: entries("c"), Kids: []api.Shape{c, c}}}},
	} {
		if n, e := Of(s); n != nil || e != api.ErrArg {
			t.Error(i, e)
		}
	}
}

// P6.2
func TestLooks(t *testing.T) {
	n := leaf(t, "a", "b")
	if x, ok := n.Entry(1); !ok || x.Key != "b" {
		t.Error(x, ok)
	}
	for _, i := range []int{-1, 2, 1 << 40} {
		if x, ok := n.Entry(i); ok || x.Key != "" {
			t.Error(i, x)
		}
	}
	m := inner(t, n, leaf(t, "c"))
	if _, ok := m.Entry(0); ok || len(m.Entries()) != 0 || len(n.Kids()) != 0 {
		t.Error("an inner node's entries, a leaf's kids")
	}
	if e := leaf(t); e.First() != "" || e.Last() != "" {
		t.Error("of none")
	}
	var none *Node
	if _, ok := none.Entry(0); ok || none.Height() != 0 || none.Count() != 0 || none.Size() != 0 || none.First() != "" || none.Last() != "" || none.Entries() != nil || none.Kids() != nil || !none.Sound(true) || none.Sound(false) || none.Nodes() != 0 || !reflect.DeepEqual(none.Shape(), api.Shape{}) {
		t.Error("of nil")
	}
}

func TestSound(t *testing.T) {
	three, four, five := leaf(t, "a", "b", "c"), leaf(t, "d", "e", "f", "g"), leaf(t, "h", "i", "j", "k", "l")
	for i, x := range []struct {
		n          *Node
		root, kids bool
	}{{three, true, false}, {four, true, true}, {leaf(t), true, false}, {&Node{}, true, false}, {inner(t, four, five), true, false}, {inner(t, three, four), false, false}, {inner(t, inner(t, four, five), inner(t, leaf(t, "m"), leaf(t, "n"))), false, false}} {
		if x.n.Sound(true) != x.root || x.n.Sound(false) != x.kids {
			t.Error(i, x.n.Sound(true), x.n.Sound(false))
		}
	}
}

// built is a node of this height whose nodes have so many entries, or kids, each.
func built(t *testing.T, height, fan int, next *int) *Node {
	if height == 0 {
		var keys []string
		for range fan {
			*next++
			keys = append(keys, fmt.Sprintf("%06d", *next))
		}
		return leaf(t, keys...)
	}
	var kids []*Node
	for range fan {
		kids = append(kids, built(t, height-1, fan, next))
	}
	return inner(t, kids...)
}

// P6.3
func TestWhatFollows(t *testing.T) {
	for height := range 4 {
		for fan := 2; fan <= 8; fan++ {
			next := 0
			n := built(t, height, fan, &next)
			m, e := Of(n.Shape())
			if e != api.OK || !reflect.DeepEqual(m.Shape(), n.Shape()) || m.Nodes() != n.Nodes() || m.Height() != height || m.Count() != next {
				t.Fatal(height, fan, e)
			}
			if n.Sound(false) != (fan >= 4) || n.Sound(true) != (fan >= 4 || height == 0) {
				t.Error(height, fan)
			}
		}
	}
	next := 0
	least := inner(t, built(t, 2, 4, &next), built(t, 2, 4, &next))
	if !least.Sound(true) || least.Count() != 2*64 {
		t.Error(least.Count())
	}
}

// P0.7: a shape that nests deep, and is none.
func TestDeepShape(t *testing.T) {
	s := api.Shape{Entries: entries("a")}
	for range 1<<16 - 1 {
		s = api.Shape{Kids: []api.Shape{{Entries: entries("b")}, s}}
	}
	if n, e := Of(s); n != nil || e != api.ErrArg {
		t.Error(e)
	}
}
