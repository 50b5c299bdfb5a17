package overlay

import (
	"fmt"
	"math/rand"
	"reflect"
	"sort"
	"strings"
	"testing"

	"commonplace/api"
	"commonplace/tree"
)

func num(i int) api.Value           { return api.Value{Kind: api.Int, Int: int64(i)} }
func list(l ...api.Value) api.Value { return api.Value{Kind: api.List, List: l} }

func over() tree.Tree { return tree.Tree{}.Put("a", num(1)) }

// P12.1
func TestGetPutDelete(t *testing.T) {
	o := Begin(over())
	if v, ok := o.Get("a"); !ok || v.Int != 1 || o.Mark() != 0 {
		t.Error(v, ok)
	}
	if v, ok := o.Get("b"); ok || v.Kind != 0 {
		t.Error(v, ok)
	}
	v := list(num(1))
	if e := o.Put("b", v); e != api.OK {
		t.Error(e)
	}
	v.List[0] = num(2)
	got, ok := o.Get("b")
	if !ok || got.List[0].Int != 1 {
		t.Error("no copy is taken", got)
	}
	got.List[0] = num(3)
	if got, _ := o.Get("b"); got.List[0].Int != 1 {
		t.Error("memory is shared")
	}
	if !o.Delete("a") || o.Delete("a") || o.Delete("c") || !o.Delete("b") || o.Delete("b") {
		t.Error("Delete")
	}
	if v, ok := o.Get("a"); ok || v.Kind != 0 {
		t.Error(v, ok)
	}
	mark := o.Mark()
	for i, x := range []struct {
		k string
		v api.Value
		e api.Errno
	}{{"", api.Value{}, api.ErrKey}, {"\xff", num(1), api.ErrKey}, {strings.Repeat("k", 65), num(1), api.ErrKey}, {"k", api.Value{}, api.ErrKind}, {"k", api.Value{Kind: api.Text, Text: strings.Repeat("k", 1023)}, api.ErrLong}} {
		if e := o.Put(x.k, x.v); e != x.e || o.Mark() != mark {
			t.Error(i, e)
		}
	}
	odd := Begin(tree.Tree{}.Put("", num(1)))
	if _, ok := odd.Get(""); !ok || !odd.Delete("") || odd.Delete("") {
		t.Error("a key that may not be, below")
	}
}

func TestZeroAndNil(t *testing.T) {
	var zero Overlay
	if zero.Delete("a") || zero.Mark() != 0 || zero.Put("a", num(1)) != api.OK || zero.Mark() != 1 || zero.Commit().Len() != 1 || zero.Back(0) != api.OK || zero.Commit().Len() != 0 || zero.Back(1) != api.ErrRange {
		t.Error("a zero one")
	}
	var none *Overlay
	if _, ok := none.Get("a"); ok || none.Put("", api.Value{}) != api.ErrNil || none.Delete("a") || none.Mark() != 0 || none.Back(-1) != api.ErrNil || none.Prefix("") != nil || none.Commit().Root() != nil {
		t.Error("nil")
	}
}

// P12.2
func TestMarkBack(t *testing.T) {
	o := Begin(over())
	if o.Put("b", num(2)) != api.OK || !o.Delete("a") || o.Mark() != 2 || !reflect.DeepEqual(o.Prefix(""), []string{"b"}) || o.Back(0) != api.OK || !reflect.DeepEqual(o.Prefix(""), []string{"a"}) {
		t.Error(o.Prefix(""))
	}
	o.Put("a", num(1))
	o.Put("a", num(5))
	o.Delete("a")
	o.Delete("x")
	if o.Mark() != 3 {
		t.Error(o.Mark())
	}
	if o.Back(-1) != api.ErrRange || o.Back(4) != api.ErrRange || o.Back(3) != api.OK || o.Mark() != 3 {
		t.Error("Back", o.Mark())
	}
	if _, ok := o.Get("a"); ok {
		t.Error("Back undid too much")
	}
	for mark, want := range map[int]int64{2: 5} {
		if o.Back(mark) != api.OK || o.Mark() != mark {
			t.Error(mark)
		}
		if v, _ := o.Get("a"); v.Int != want {
			t.Error(mark, v)
		}
	}
	if o.Back(3) != api.ErrRange {
		t.Error("what is undone is none")
	}
}

// P12.3
func TestPrefixCommit(t *testing.T) {
	below := tree.Build(api.Entry{Key: "a", Value: num(1)}, api.Entry{Key: "b", Value: num(2)}, api.Entry{Key: "b/1", Value: num(3)}, api.Entry{Key: "c", Value: num(4)})
	o := Begin(below)
	if !o.Commit().Is(below) {
		t.Error("no change")
	}
	o.Put("a", num(1))
	o.Delete("c")
	o.Put("c", num(4))
	o.Put("new", num(1))
	o.Delete("new")
	if !o.Commit().Is(below) {
		t.Error("what is the same as below is left as it is")
	}
	o.Put("b/0", num(9))
	o.Put("b/1", num(7))
	o.Delete("b")
	if l := o.Prefix("b"); !reflect.DeepEqual(l, []string{"b/0", "b/1"}) {
		t.Error(l)
	}
	if l := o.Prefix("zz"); len(l) != 0 {
		t.Error(l)
	}
	mark := o.Mark()
	want := tree.Build(api.Entry{Key: "a", Value: num(1)}, api.Entry{Key: "b/0", Value: num(9)}, api.Entry{Key: "b/1", Value: num(7)}, api.Entry{Key: "c", Value: num(4)})
	if got := o.Commit(); !got.Same(want) || o.Mark() != mark || !o.Commit().Same(want) || below.Len() != 4 {
		t.Error(got.Entries())
	}
}

// P12.3: by rising keys, one behind the other.
func TestCommitPutsByRisingKeys(t *testing.T) {
	var below, want tree.Tree
	o := Begin(below)
	for i := 29; i >= 0; i-- {
		o.Put(fmt.Sprintf("%02d", i), num(i))
	}
	for i := range 30 {
		want = want.Put(fmt.Sprintf("%02d", i), num(i))
	}
	if !reflect.DeepEqual(o.Commit().Root().Shape(), want.Root().Shape()) {
		t.Error("another shape")
	}
}

// P12.4
func TestWhatFollows(t *testing.T) {
	rnd := rand.New(rand.NewSource(13))
	for range 100 {
		below := tree.Tree{}
		for range rnd.Intn(20) {
			below = below.Put(fmt.Sprint(rnd.Intn(30)), num(rnd.Intn(3)))
		}
		before := fmt.Sprint(below.Entries())
		o := Begin(below)
		type moment struct {
			mark int
			t    tree.Tree
		}
		moments := []moment{{0, below}}
		for range 60 {
			k := fmt.Sprint(rnd.Intn(30))
			switch rnd.Intn(6) {
			case 0, 1:
				o.Put(k, num(rnd.Intn(3)))
			case 2, 3:
				o.Delete(k)
			case 4:
				moments = append(moments, moment{o.Mark(), o.Commit()})
			case 5:
				i := rnd.Intn(len(moments))
				m := moments[i]
				if e := o.Back(m.mark); e != api.OK || o.Mark() != m.mark || !o.Commit().Same(m.t) {
					t.Fatal("not as it was then", e)
				}
				moments = moments[:i+1]
			}
			now := o.Commit()
			l := o.Prefix("1")
			if !sort.StringsAreSorted(l) {
				t.Fatal(l)
			}
			for _, k := range l {
				if _, ok := now.Get(k); !ok || !strings.HasPrefix(k, "1") {
					t.Fatal(k)
				}
			}
			if len(o.Prefix("")) != now.Len() {
				t.Fatal("Prefix")
			}
		}
		if fmt.Sprint(below.Entries()) != before {
			t.Fatal("the tree below was changed")
		}
	}
}
