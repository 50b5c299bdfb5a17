package value

import (
	"math/rand"
	"reflect"
	"strings"
	"testing"

	"commonplace/api"
)

func num(i int64) api.Value            { return api.Value{Kind: api.Int, Int: i} }
func text(s string) api.Value          { return api.Value{Kind: api.Text, Text: s} }
func list(l ...api.Value) api.Value    { return api.Value{Kind: api.List, List: l} }
func object(l ...api.Member) api.Value { return api.Value{Kind: api.Object, Object: l} }
func bit(b bool) api.Value             { return api.Value{Kind: api.Bool, Bool: b} }

func nest(n int, v api.Value) api.Value {
	for range n {
		v = list(v)
	}
	return v
}

var null = api.Value{Kind: api.Null}

// P2.1
func TestMay(t *testing.T) {
	for i, x := range []struct {
		v api.Value
		e api.Errno
	}{
		{null, api.OK}, {bit(true), api.OK}, {num(-1), api.OK}, {text("é"), api.OK}, {list(), api.OK}, {object(), api.OK},
		{list(null, object(api.Member{Key: "", Value: null}, api.Member{Key: "a", Value: list()})), api.OK},
		{api.Value{Kind: api.Null, List: []api.Value{}, Object: []api.Member{}}, api.OK},
		{api.Value{}, api.ErrKind}, {api.Value{Kind: 7}, api.ErrKind}, {api.Value{Kind: -1}, api.ErrKind},
		{api.Value{Kind: api.Null, Bool: true}, api.ErrKind}, {api.Value{Kind: api.Bool, Int: 1}, api.ErrKind},
		{api.Value{Kind: api.Int, Text: "a"}, api.ErrKind}, {api.Value{Kind: api.Text, Text: "\xff", List: []api.Value{null}}, api.ErrKind},
		{api.Value{Kind: api.List, Object: []api.Member{{}}}, api.ErrKind}, {api.Value{Kind: api.Object, List: []api.Value{null}}, api.ErrKind},
		{api.Value{Kind: api.List, Object: []api.Member{{Value: null}}}, api.ErrKind}, {api.Value{Kind: api.Object, List: []api.Value{null}, Object: []api.Member{{Value: null}}}, api.ErrKind}, {api.Value{Kind: api.Null, Text: "a"}, api.ErrKind}, {api.Value{Kind: api.Null, Int: 1}, api.ErrKind},
		{text("\xff"), api.ErrUTF},
		{nest(63, num(1)), api.OK}, {nest(64, num(1)), api.ErrDeep}, {nest(63, list()), api.OK},
		{nest(64, api.Value{}), api.ErrKind}, {nest(64, text("\xff")), api.ErrDeep}, {nest(63, text("\xff")), api.ErrUTF},
		{object(api.Member{Key: "\xff", Value: api.Value{}}), api.ErrUTF},
		{object(api.Member{Key: "b", Value: null}, api.Member{Key: "a", Value: api.Value{}}), api.ErrKey},
		{object(api.Member{Key: "a", Value: null}, api.Member{Key: "a", Value: null}), api.ErrKey},
		{object(api.Member{Key: "b", Value: null}, api.Member{Key: "\xff", Value: null}), api.ErrUTF},
		{object(api.Member{Key: "b", Value: text("\xff")}, api.Member{Key: "a", Value: null}), api.ErrUTF},
		{list(text("\xff"), api.Value{}), api.ErrUTF}, {list(api.Value{}, text("\xff")), api.ErrKind},
		{object(api.Member{Key: "a", Value: nest(62, num(1))}), api.OK}, {object(api.Member{Key: "a", Value: nest(63, num(1))}), api.ErrDeep},
	} {
		if e := May(x.v); e != x.e {
			t.Errorf("%d: %v, want %v", i, e, x.e)
		}
	}
}

// some are values, each ahead of the next one.
func some() []api.Value {
	return []api.Value{
		{}, null, bit(false), bit(true), num(-1 << 63), num(3), num(1<<63 - 1), text(""), text("a"), text("a\x00"), text("b"), text("\xff"),
		list(), list(null), list(num(1)), list(num(1), null), list(num(2)),
		object(), object(api.Member{Key: "a", Value: null}), object(api.Member{Key: "a", Value: null}, api.Member{Key: "b", Value: null}), object(api.Member{Key: "a", Value: num(1)}), object(api.Member{Key: "b", Value: null}),
		{Kind: 9},
	}
}

// P2.2
func TestCompare(t *testing.T) {
	l := some()
	for i, a := range l {
		for j, b := range l {
			c := Compare(a, b)
			if (c < 0) != (i < j) || (c > 0) != (i > j) || Same(a, b) != (i == j) {
				t.Errorf("%d %d: %d %v", i, j, c, Same(a, b))
			}
		}
	}
	for _, x := range [][2]api.Value{
		{{Kind: 9, Int: 1}, {Kind: 9, Text: "x"}},
		{{Kind: api.Null, Int: 1}, null},
		{{Kind: api.Int, Text: "b"}, {Kind: api.Int, Text: "a"}},
		{{Kind: api.Bool, Int: 5}, {Kind: api.Bool, Int: 4}},
		{{Kind: api.List, Object: []api.Member{{}}}, list()},
	} {
		if !Same(x[0], x[1]) {
			t.Error(x)
		}
	}
}

// P2.3
func TestCopyDeepSize(t *testing.T) {
	v := list(num(1), list(num(2)), object(api.Member{Key: "a", Value: list()}))
	if Deep(v) != 3 || Size(v) != 6 {
		t.Error(Deep(v), Size(v))
	}
	if Deep(null) != 1 || Size(null) != 1 || Deep(list()) != 1 || Size(object()) != 1 || Deep(api.Value{}) != 1 {
		t.Error("of none")
	}
	odd := api.Value{Kind: api.Int, Bool: true, Int: 1, Text: "x", List: []api.Value{list(null)}, Object: []api.Member{{Key: "k", Value: list(null)}}}
	if Deep(odd) != 1 || Size(odd) != 1 {
		t.Error("what the Kind does not name counts")
	}
	both := api.Value{Kind: api.Object, List: []api.Value{list(list(null))}, Object: []api.Member{{Key: "k", Value: null}}}
	if Deep(both) != 2 || Size(both) != 2 {
		t.Error(Deep(both), Size(both))
	}
	for _, v := range []api.Value{v, odd, both, {}} {
		w := Copy(v)
		if !reflect.DeepEqual(v, w) && !(Same(v, w)) {
			t.Error(v, w)
		}
	}
	if c := Copy(odd); !reflect.DeepEqual(c, odd) {
		t.Error(c)
	}
	c := Copy(v)
	c.List[1].List[0] = num(9)
	c.List[2].Object[0].Key = "z"
	if v.List[1].List[0].Int != 2 || v.List[2].Object[0].Key != "a" {
		t.Error("memory is shared")
	}
}

// P2.4
func TestObjectMember(t *testing.T) {
	in := []api.Member{{Key: "b", Value: list(num(1))}, {Key: "a", Value: api.Value{}}, {Key: "\xff"}}
	v, e := Object(in...)
	if e != api.OK || v.Kind != api.Object || len(v.Object) != 3 || v.Object[0].Key != "a" || v.Object[1].Key != "b" || v.Object[2].Key != "\xff" || in[0].Key != "b" {
		t.Error(v, e)
	}
	v.Object[1].Value.List[0] = null
	if in[0].Value.List[0].Int != 1 {
		t.Error("memory is shared")
	}
	if v, e := Object(in[0], in[1], api.Member{Key: "b"}); e != api.ErrKey || !reflect.DeepEqual(v, api.Value{}) {
		t.Error(v, e)
	}
	if _, e := Object(in[1], in[1]); e != api.ErrKey {
		t.Error(e)
	}
	if v, e := Object(); e != api.OK || v.Kind != api.Object || len(v.Object) != 0 {
		t.Error(v, e)
	}
	u := object(api.Member{Key: "b", Value: num(1)}, api.Member{Key: "a", Value: list(num(2))}, api.Member{Key: "b", Value: num(3)})
	if w, e := Member(u, "b"); w.Int != 1 || e != api.OK {
		t.Error(w, e)
	}
	w, _ := Member(u, "a")
	w.List[0] = null
	if u.Object[1].Value.List[0].Int != 2 {
		t.Error("memory is shared")
	}
	if w, e := Member(u, "c"); e != api.ErrNone || w.Kind != 0 {
		t.Error(w, e)
	}
	if w, e := Member(api.Value{Kind: api.List, Object: u.Object}, "b"); e != api.ErrKind || w.Kind != 0 {
		t.Error(w, e)
	}
}

func randomValue(rnd *rand.Rand, deep int) api.Value {
	k := api.Kind(rnd.Intn(8))
	v := api.Value{Kind: k, Bool: rnd.Intn(2) == 0, Int: int64(rnd.Intn(3)), Text: strings.Repeat("a", rnd.Intn(2))}
	if deep > 0 {
		for range rnd.Intn(3) {
			v.List = append(v.List, randomValue(rnd, deep-1))
			v.Object = append(v.Object, api.Member{Key: string(rune('a' + rnd.Intn(2))), Value: randomValue(rnd, deep-1)})
		}
	}
	return v
}

// P2.5
func TestCompareIsAnOrder(t *testing.T) {
	rnd := rand.New(rand.NewSource(3))
	var l []api.Value
	for range 60 {
		l = append(l, randomValue(rnd, 2))
	}
	for _, a := range l {
		if Compare(a, a) != 0 || Compare(a, Copy(a)) != 0 {
			t.Fatal("not the same as itself")
		}
		for _, b := range l {
			ab := Compare(a, b)
			if sign(ab) != -sign(Compare(b, a)) || Same(a, b) != (ab == 0) {
				t.Fatal("turned about")
			}
			for _, c := range l {
				if ab <= 0 && Compare(b, c) <= 0 && Compare(a, c) > 0 {
					t.Fatal("not an order")
				}
			}
		}
		each(a, func(w api.Value) {
			if Deep(w) >= Deep(a) {
				t.Fatal("deeper than what it stands in")
			}
		})
	}
}

func sign(i int) int {
	switch {
	case i < 0:
		return -1
	case i > 0:
		return 1
	}
	return 0
}

// P0.7: values that nest as deep as may be handed in.
func TestDeepNesting(t *testing.T) {
	v := nest(1<<16-1, null)
	if May(v) != api.ErrDeep || Deep(v) != 1<<16 || Size(v) != 1<<16 || !Same(v, Copy(v)) {
		t.Error("deep nesting")
	}
}
