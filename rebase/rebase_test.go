package rebase

import (
	"math/rand"
	"reflect"
	"testing"

	"commonplace/api"
	"commonplace/diff"
	"commonplace/tree"
)

func num(i int) api.Value { return api.Value{Kind: api.Int, Int: int64(i)} }

func inc(k string) api.Mutator { return api.Mutator{Kind: api.MutInc, Key: k, Int: 1} }
func del(k string) api.Mutator { return api.Mutator{Kind: api.MutDel, Key: k} }

func example() []api.Numbered {
	return []api.Numbered{{ID: 1, Mutator: inc("n")}, {ID: 2, Mutator: del("n")}, {ID: 3, Mutator: inc("n")}}
}

// P24.1
func TestHeadCodes(t *testing.T) {
	base := tree.Tree{}.Put("n", num(5))
	l := example()
	if h := Head(base, l...); !h.Same(tree.Tree{}.Put("n", num(1))) {
		t.Error(h.Entries())
	}
	if c := Codes(base, l...); !reflect.DeepEqual(c, []api.Errno{api.OK, api.OK, api.OK}) {
		t.Error(c)
	}
	l = append(l, api.Numbered{ID: 3, Mutator: del("x")}, api.Numbered{Mutator: api.Mutator{}}, api.Numbered{ID: 1, Mutator: inc("n")})
	if c := Codes(base, l...); !reflect.DeepEqual(c, []api.Errno{api.OK, api.OK, api.OK, api.ErrNone, api.ErrKind, api.OK}) {
		t.Error(c)
	}
	if h := Head(base, l...); !h.Same(tree.Tree{}.Put("n", num(2))) {
		t.Error(h.Entries())
	}
	if len(Codes(base)) != 0 || !Head(base).Is(base) {
		t.Error("of none")
	}
}

// P24.2
func TestLeftOnto(t *testing.T) {
	l := example()
	h, left, changes := Onto(tree.Tree{}.Put("n", num(1)), tree.Tree{}, 1, l...)
	if !h.Same(tree.Tree{}.Put("n", num(1))) || !reflect.DeepEqual(left, l[1:]) || len(changes) != 0 {
		t.Error(h.Entries(), left, changes)
	}
	h, left, changes = Onto(tree.Tree{}.Put("n", num(1)), tree.Tree{}.Put("n", num(7)), 3, l...)
	if want := []api.Change{{Key: "n", Had: true, Was: num(1), Has: true, Is: num(7)}}; !h.Same(tree.Tree{}.Put("n", num(7))) || len(left) != 0 || !reflect.DeepEqual(changes, want) {
		t.Error(changes)
	}
	odd := []api.Numbered{{ID: 9, Mutator: inc("a")}, {ID: 2, Mutator: inc("b")}, {ID: 5, Mutator: api.Mutator{Kind: api.MutPut, Key: "l", Value: api.Value{Kind: api.List, List: []api.Value{num(1)}}}}}
	left = Left(4, odd...)
	if len(left) != 2 || left[0].ID != 9 || left[1].ID != 5 {
		t.Error(left)
	}
	left[1].Mutator.Value.List[0] = num(2)
	left[0].Mutator.Key = "z"
	if odd[2].Mutator.Value.List[0].Int != 1 || odd[0].Mutator.Key != "a" {
		t.Error("memory is shared")
	}
	if len(Left(1<<64-1, odd...)) != 0 || len(Left(0, odd...)) != 3 || len(Left(0)) != 0 {
		t.Error("Left")
	}
}

// P24.3
func TestWhatFollows(t *testing.T) {
	rnd := rand.New(rand.NewSource(27))
	some := func(most int) []api.Numbered {
		var l []api.Numbered
		for i := range rnd.Intn(most) {
			k := []string{"a", "b", "c"}[rnd.Intn(3)]
			m := []api.Mutator{inc(k), del(k), {Kind: api.MutMove, Key: k, To: "b"}, {Kind: api.MutPut, Key: k, Value: num(rnd.Intn(3))}}[rnd.Intn(4)]
			l = append(l, api.Numbered{ID: uint64(i + 1), Mutator: m})
		}
		return l
	}
	for range 1000 {
		base, other := Head(tree.Tree{}, some(9)...), Head(tree.Tree{}, some(9)...)
		a, b := some(6), some(6)
		if h := Head(base, append(append([]api.Numbered{}, a...), b...)...); !h.Same(Head(Head(base, a...), b...)) {
			t.Fatal("one behind the other")
		}
		if !Head(base).Is(base) {
			t.Fatal("of none")
		}
		old := Head(base, a...)
		last := uint64(rnd.Intn(6))
		h, left, changes := Onto(old, other, last, a...)
		if c, e := diff.Apply(old, changes...); e != api.OK || !c.Same(h) || !h.Same(Head(other, left...)) {
			t.Fatal(e)
		}
		if len(left) != max(0, len(a)-int(last)) {
			t.Fatal(left)
		}
	}
}
