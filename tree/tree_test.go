package tree

import (
	"fmt"
	"math/rand"
	"reflect"
	"sort"
	"testing"

	"commonplace/api"
	"commonplace/node"
	"commonplace/value"
)

func num(i int) api.Value { return api.Value{Kind: api.Int, Int: int64(i)} }

func entry(k string) api.Entry { return api.Entry{Key: k, Value: num(len(k))} }

func entries2(keys ...string) []api.Entry {
	var l []api.Entry
	for _, k := range keys {
		l = append(l, entry(k))
	}
	return l
}

func keys(t Tree) string {
	s := ""
	for _, x := range t.Entries() {
		s += x.Key
	}
	return s
}

// outline tells how many entries, or kids, each node has.
func outline(n *node.Node) string {
	if n.Height() == 0 {
		return fmt.Sprint(n.Size())
	}
	s := "("
	for _, k := range n.Kids() {
		s += outline(k) + " "
	}
	return s[:len(s)-1] + ")"
}

// P7.1
func TestBuildOf(t *testing.T) {
	nine := Build(entries2("a", "b", "c", "d", "e", "f", "g", "h", "i")...)
	if outline(nine.Root()) != "(4 5)" || keys(nine) != "abcdefghi" {
		t.Error(outline(nine.Root()))
	}
	if b := Build(append(entries2("b", "a"), api.Entry{Key: "b", Value: num(7)})...); b.Len() != 2 || b.Entries()[1].Value.Int != 7 {
		t.Error(b.Entries())
	}
	eight := Build(entries2("a", "b", "c", "d", "e", "f", "g", "h")...)
	if outline(eight.Root()) != "8" {
		t.Error(outline(eight.Root()))
	}
	if Build().Root() != nil {
		t.Error("of none")
	}
	again, e := Of(nine.Root().Shape())
	if e != api.OK || !again.Same(nine) || again.Is(nine) || outline(again.Root()) != "(4 5)" {
		t.Error(e)
	}
	if one, e := Of(api.Shape{Entries: entries2("a")}); e != api.OK || one.Len() != 1 {
		t.Error(e)
	}
	four := api.Shape{Entries: entries2("a", "b", "c", "d")}
	for i, s := range []api.Shape{{}, {Entries: entries2("b", "a")}, {Kids: []api.Shape{four, {Entries: entries2("e", "f", "g")}}}, {Kids: []api.Shape{four}}, {Kids: []api.Shape{four, four}}, {Kids: []api.Shape{four, {}}}} {
		if b, e := Of(s); e != api.ErrArg || b.Root() != nil {
			t.Error(i, e)
		}
	}
}

// P7.2
func TestGetPutDelete(t *testing.T) {
	v := api.Value{Kind: api.List, List: []api.Value{num(1)}}
	var none Tree
	a := none.Put("k", v)
	v.List[0].Int = 9
	got, ok := a.Get("k")
	if !ok || got.List[0].Int != 1 {
		t.Error("no copy is taken")
	}
	got.List[0].Int = 8
	if again, _ := a.Get("k"); again.List[0].Int != 1 {
		t.Error("memory is shared")
	}
	if w, ok := a.Get("j"); ok || w.Kind != 0 {
		t.Error(w)
	}
	if w, ok := none.Get(""); ok || w.Kind != 0 {
		t.Error(w)
	}
	if same, ok := a.Delete("j"); ok || !same.Is(a) {
		t.Error("what is not there was deleted")
	}
	if gone, ok := a.Delete("k"); !ok || gone.Root() != nil || a.Len() != 1 {
		t.Error("delete of the last")
	}
	if same, ok := none.Delete("k"); ok || same.Root() != nil {
		t.Error("delete of none")
	}
	odd := a.Put("", api.Value{Kind: 55, Text: "\xff"}).Put("\xff\xff", api.Value{})
	if w, ok := odd.Get(""); !ok || w.Kind != 55 || w.Text != "\xff" || odd.Len() != 3 {
		t.Error("any key and value will do", w, ok)
	}
	if b := a.Put("k", num(2)); a.Is(b) || b.Len() != 1 {
		t.Error("put over what is there")
	}
}

// TestDeleteMends follows what becomes of kids that are not full enough.
func TestDeleteMends(t *testing.T) {
	build := func(sizes ...int) Tree {
		var s api.Shape
		next := 'a'
		for _, n := range sizes {
			var l []string
			for range n {
				l = append(l, string(next))
				next++
			}
			s.Kids = append(s.Kids, api.Shape{Entries: entries2(l...)})
		}
		b, e := Of(s)
		if e != api.OK {
			t.Fatal(sizes, e)
		}
		return b
	}
	for _, x := range []struct {
		sizes      []int
		k, outline string
		keys       string
	}{
		{[]int{4, 4}, "a", "7", "bcdefgh"}, {[]int{4, 4}, "h", "7", "abcdefg"}, {[]int{5, 4}, "i", "(4 4)", "abcdefgh"}, {[]int{4, 5}, "a", "(4 4)", "bcdefghi"},
		{[]int{4, 8}, "b", "(4 7)", "acdefghijkl"}, {[]int{8, 4}, "k", "(7 4)", "abcdefghijl"}, {[]int{4, 4, 8}, "e", "(7 8)", "abcdfghijklmnop"}, {[]int{5, 4, 8}, "f", "(4 4 8)", "abcdeghijklmnopq"},
		{[]int{4, 4, 4}, "a", "(7 4)", "bcdefghijkl"}, {[]int{5, 4}, "a", "(4 4)", "bcdefghi"}, {[]int{4, 5, 4}, "j", "(4 4 4)", "abcdefghiklm"},
	} {
		a := build(x.sizes...)
		b, ok := a.Delete(x.k)
		if !ok || outline(b.Root()) != x.outline || keys(b) != x.keys {
			t.Errorf("%v without %s: %s %s", x.sizes, x.k, outline(b.Root()), keys(b))
		}
	}
}

func TestDeleteMendsInner(t *testing.T) {
	var s api.Shape
	n := 0
	for _, kids := range []int{5, 4, 4} {
		var in api.Shape
		for range kids {
			var l []string
			for range 4 {
				l = append(l, fmt.Sprintf("%03d", n))
				n++
			}
			in.Kids = append(in.Kids, api.Shape{Entries: entries2(l...)})
		}
		s.Kids = append(s.Kids, in)
	}
	a, e := Of(s)
	if e != api.OK {
		t.Fatal(e)
	}
	b, _ := a.Delete("020")
	if outline(b.Root()) != "((4 4 4 4) (4 7 4 4) (4 4 4 4))" {
		t.Error(outline(b.Root()))
	}
	c, _ := b.Delete("051")
	if outline(c.Root()) != "((4 4 4 4) (4 7 4 4 4 4 7))" {
		t.Error(outline(c.Root()))
	}
	d, _ := c.Delete("000")
	if outline(d.Root()) != "((7 4 4 4) (7 4 4 4 4 7))" {
		t.Error(outline(d.Root()))
	}
}

// P7.3
func TestLooks(t *testing.T) {
	a := Build(entries2("a", "b", "c", "d", "e", "f", "g", "h", "i")...)
	b := a.Put("z", num(1))
	var none Tree
	if a.Len() != 9 || none.Len() != 0 || len(none.Entries()) != 0 || none.Root() != nil {
		t.Error("Len")
	}
	if !none.Is(Tree{}) || a.Is(b) || !a.Is(a) || none.Is(a) {
		t.Error("Is")
	}
	back, _ := b.Delete("z")
	if !back.Same(a) || back.Is(a) || a.Same(b) || a.Same(a.Put("a", num(5))) || !none.Same(Tree{}) || a.Same(none) {
		t.Error("Same")
	}
	if x := (api.Entry{Key: "x", Value: num(1)}); Build(x).Same(Build(api.Entry{Key: "y", Value: num(1)})) || !Build(x).Same(Build(x)) {
		t.Error("Same")
	}
	if Fresh(a, b) != 2 || Fresh(b, a) != 2 || Fresh(a, a) != 0 || Fresh(none, a) != 3 || Fresh(a, none) != 0 {
		t.Error(Fresh(a, b), Fresh(b, a), Fresh(none, a))
	}
	l := Build(api.Entry{Key: "k", Value: api.Value{Kind: api.List, List: []api.Value{num(1)}}})
	l.Entries()[0].Value.List[0].Int = 7
	if l.Entries()[0].Value.List[0].Int != 1 {
		t.Error("memory is shared")
	}
	if reflect.TypeOf(Tree{}).Comparable() {
		t.Error("trees can be compared by ==")
	}
}

// nodes gathers a tree's nodes.
func nodes(n *node.Node, m map[*node.Node]bool) {
	if n == nil {
		return
	}
	m[n] = true
	for _, k := range n.Kids() {
		nodes(k, m)
	}
}

// P7.4
func TestWhatFollows(t *testing.T) {
	rnd := rand.New(rand.NewSource(8))
	var all []Tree
	var maps []map[string]int
	now, has := Tree{}, map[string]int{}
	for step := range 4000 {
		k := fmt.Sprint(rnd.Intn(300))
		var next Tree
		if grow := step%1000 < 500; rnd.Intn(10) < 7 == grow {
			next, has[k] = now.Put(k, num(step)), step
		} else {
			var ok bool
			next, ok = now.Delete(k)
			if _, was := has[k]; was != ok {
				t.Fatal("delete", k, ok)
			}
			delete(has, k)
		}
		if next.Root() != nil && !next.Root().Sound(true) || next.Len() != len(has) || next.Root().Count() == 0 && next.Root() != nil {
			t.Fatal("not sound")
		}
		if most := 2*max(now.Root().Height(), next.Root().Height()) + 3; Fresh(now, next) > most {
			t.Fatal("too many nodes are fresh", Fresh(now, next))
		}
		limit := 1
		for range next.Root().Height() {
			limit *= 4
		}
		if next.Len() > 1 && next.Root().Height() > 0 && 2*limit > next.Len() {
			t.Fatal("too high")
		}
		old := map[*node.Node]bool{}
		nodes(now.Root(), old)
		fresh := map[*node.Node]bool{}
		nodes(next.Root(), fresh)
		n := 0
		for x := range fresh {
			if !old[x] {
				n++
			}
		}
		if n != Fresh(now, next) {
			t.Fatal("Fresh", n, Fresh(now, next))
		}
		now = next
		if step%97 == 0 {
			m := map[string]int{}
			for k, v := range has {
				m[k] = v
			}
			all, maps = append(all, now), append(maps, m)
		}
	}
	for i, a := range all {
		if !holds(a, maps[i]) {
			t.Fatal("a tree that was kept was changed")
		}
	}
}

// holds: has the tree just that, by rising keys?
func holds(a Tree, m map[string]int) bool {
	l := a.Entries()
	if len(l) != len(m) || !sort.SliceIsSorted(l, func(i, j int) bool { return l[i].Key < l[j].Key }) {
		return false
	}
	for _, x := range l {
		v, ok := a.Get(x.Key)
		if want, in := m[x.Key]; !in || !ok || int(x.Value.Int) != want || !value.Same(v, x.Value) {
			return false
		}
	}
	return true
}

func TestFreshOfShapesApart(t *testing.T) {
	a := Build(entries2("a", "b", "c", "d", "e", "f", "g", "h", "i")...)
	b, _ := Of(a.Root().Shape())
	if Fresh(a, b) != 3 || !a.Same(b) {
		t.Error(Fresh(a, b))
	}
}
