package freeze

import (
	"fmt"
	"math/rand"
	"strings"
	"testing"

	"commonplace/api"
	"commonplace/tree"
	"commonplace/value"
)

func num(i int) api.Value           { return api.Value{Kind: api.Int, Int: int64(i)} }
func text(s string) api.Value       { return api.Value{Kind: api.Text, Text: s} }
func list(l ...api.Value) api.Value { return api.Value{Kind: api.List, List: l} }

func nest(n int, v api.Value) api.Value {
	for range n {
		v = list(v)
	}
	return v
}

// P10.1
func TestValueText(t *testing.T) {
	a := tree.Tree{}.Put("b", num(1)).Put("a", list())
	if s, e := Text(a); s != `{"a":[],"b":1}` || e != api.OK {
		t.Error(s, e)
	}
	if s, e := Text(tree.Tree{}); s != `{}` || e != api.OK {
		t.Error(s, e)
	}
	a = tree.Tree{}.Put("k", list(num(1)))
	v, e := Value(a)
	if e != api.OK || v.Kind != api.Object || len(v.Object) != 1 || v.Object[0].Key != "k" {
		t.Error(v, e)
	}
	v.Object[0].Value.List[0] = num(2)
	if s, _ := Text(a); s != `{"k":[1]}` {
		t.Error("memory is shared", s)
	}
	for i, x := range []struct {
		t tree.Tree
		e api.Errno
	}{
		{tree.Tree{}.Put("", api.Value{}), api.ErrKey}, {tree.Tree{}.Put("\xff", num(1)), api.ErrKey}, {tree.Tree{}.Put(strings.Repeat("a", 65), num(1)), api.ErrKey},
		{tree.Tree{}.Put("a", api.Value{}), api.ErrKind}, {tree.Tree{}.Put("a", text("\xff")), api.ErrUTF}, {tree.Tree{}.Put("a", nest(16, num(1))), api.ErrDeep}, {tree.Tree{}.Put("a", text(strings.Repeat("a", 1023))), api.ErrLong},
		{tree.Tree{}.Put("a", api.Value{}).Put("", num(1)), api.ErrKey}, {tree.Tree{}.Put("a", text("\xff")).Put("b", api.Value{}).Put("\xff", num(1)), api.ErrUTF},
	} {
		v, e := Value(x.t)
		s, f := Text(x.t)
		if e != x.e || f != x.e || v.Kind != 0 || s != "" {
			t.Error(i, e, f)
		}
	}
	if s, e := Text(tree.Tree{}.Put("a", nest(15, num(1)))); e != api.OK || len(s) != 37 {
		t.Error(s, e)
	}
}

// P10.2
func TestFromOfExact(t *testing.T) {
	a, e := Of(` {"b" : 1, "a":[]}`)
	if e != api.OK || a.Len() != 2 || a.Entries()[0].Key != "a" {
		t.Error(e)
	}
	v := api.Value{Kind: api.Object, Object: []api.Member{{Key: "k", Value: list(num(1))}}}
	b, e := From(v)
	v.Object[0].Value.List[0] = num(2)
	if got, _ := b.Get("k"); e != api.OK || got.List[0].Int != 1 {
		t.Error("what was handed in is kept")
	}
	for s, want := range map[string]api.Errno{
		`[]`: api.ErrKind, `1`: api.ErrKind, `{"":1}`: api.ErrKey, `{"a":1`: api.ErrSyntax, ``: api.ErrSyntax, `{"a":1,"a":2}`: api.ErrKey, "{\"\xff\":1}": api.ErrUTF,
		`{"a":"` + strings.Repeat("a", 1023) + `"}`: api.ErrLong, `{"a":` + strings.Repeat("[", 17) + strings.Repeat("]", 17) + `}`: api.ErrDeep, `{"` + strings.Repeat("a", 65) + `":1}`: api.ErrKey,
		`{"b":` + strings.Repeat("[", 17) + strings.Repeat("]", 17) + `,"":1}`: api.ErrKey,
	} {
		a, e := Of(s)
		b, f := Exact(s)
		if e != want || f != want || a.Root() != nil || b.Root() != nil {
			t.Errorf("%.20s: %v %v", s, e, f)
		}
	}
	for i, x := range []struct {
		v api.Value
		e api.Errno
	}{{api.Value{}, api.ErrKind}, {list(text("\xff")), api.ErrUTF}, {list(), api.ErrKind}, {api.Value{Kind: api.Object, Object: []api.Member{{Key: "b", Value: num(1)}, {Key: "a", Value: num(1)}}}, api.ErrKey}, {api.Value{Kind: api.Object, Object: []api.Member{{Key: "", Value: text("\xff")}}}, api.ErrUTF}} {
		if a, e := From(x.v); e != x.e || a.Root() != nil {
			t.Error(i, e)
		}
	}
	for s, want := range map[string]api.Errno{`{"a":[],"b":1}`: api.OK, `{"b":1,"a":[]}`: api.ErrSyntax, `{"a":1} `: api.ErrSyntax, `{}`: api.OK, `{"\u0061":1}`: api.ErrSyntax, `{ "":1}`: api.ErrKey} {
		if _, e := Exact(s); e != want {
			t.Errorf("%s: %v", s, e)
		}
	}
}

// P10.3
func TestWhatFollows(t *testing.T) {
	rnd := rand.New(rand.NewSource(11))
	seen := map[string]tree.Tree{}
	for range 300 {
		var a tree.Tree
		for range rnd.Intn(5) {
			a = a.Put(fmt.Sprint(rnd.Intn(4)), list(num(rnd.Intn(2))))
		}
		s, e := Text(a)
		b, f := Of(s)
		c, g := Exact(s)
		if e != api.OK || f != api.OK || g != api.OK || !a.Same(b) || !a.Same(c) {
			t.Fatal(s, e, f, g)
		}
		for text, other := range seen {
			if (text == s) != other.Same(a) {
				t.Fatal(text, s)
			}
		}
		seen[s] = a
		if v, _ := Value(a); value.May(v) != api.OK {
			t.Fatal(s)
		}
		spelled := " " + strings.ReplaceAll(s, ":", " :\n")
		d, _ := Of(spelled)
		again, _ := Text(d)
		if again != s {
			t.Fatal(spelled, again)
		}
	}
}
