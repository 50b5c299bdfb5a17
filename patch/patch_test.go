package patch

import (
	"fmt"
	"math/rand"
	"reflect"
	"strings"
	"testing"

	"commonplace/api"
	"commonplace/parse"
	"commonplace/tree"
)

func num(i int) api.Value           { return api.Value{Kind: api.Int, Int: int64(i)} }
func list(l ...api.Value) api.Value { return api.Value{Kind: api.List, List: l} }

func put(k string, v api.Value) api.PatchOp {
	return api.PatchOp{Kind: api.PatchPut, Key: k, Value: v}
}
func del(k string) api.PatchOp { return api.PatchOp{Kind: api.PatchDel, Key: k} }

var wipe = api.PatchOp{Kind: api.PatchClear}

func nest(n int, v api.Value) api.Value {
	for range n {
		v = list(v)
	}
	return v
}

// P14.1
func TestMay(t *testing.T) {
	for i, x := range []struct {
		l []api.PatchOp
		e api.Errno
	}{
		{nil, api.OK}, {[]api.PatchOp{wipe}, api.OK}, {[]api.PatchOp{wipe, put("a", num(1)), del("b")}, api.OK}, {[]api.PatchOp{del("a"), put("b", num(1))}, api.OK},
		{[]api.PatchOp{{}}, api.ErrArg}, {[]api.PatchOp{{Kind: 4}}, api.ErrArg}, {[]api.PatchOp{wipe, wipe}, api.ErrArg}, {[]api.PatchOp{del("a"), wipe}, api.ErrArg},
		{[]api.PatchOp{{Kind: api.PatchDel, Key: "a", Value: num(1)}}, api.ErrArg}, {[]api.PatchOp{{Kind: api.PatchClear, Key: "a"}}, api.ErrArg}, {[]api.PatchOp{{Kind: api.PatchClear, Value: num(1)}}, api.ErrArg}, {[]api.PatchOp{{Kind: api.PatchDel, Key: "a", Value: api.Value{List: []api.Value{}}}}, api.OK},
		{[]api.PatchOp{del("b"), del("a")}, api.ErrArg}, {[]api.PatchOp{del("a"), put("a", num(1))}, api.ErrArg}, {[]api.PatchOp{del("b"), put("a", api.Value{})}, api.ErrArg}, {[]api.PatchOp{del("b"), del("")}, api.ErrArg},
		{[]api.PatchOp{del("")}, api.ErrKey}, {[]api.PatchOp{wipe, del("")}, api.ErrKey}, {[]api.PatchOp{put("", api.Value{})}, api.ErrKey}, {[]api.PatchOp{del(strings.Repeat("k", 65))}, api.ErrKey}, {[]api.PatchOp{del("a"), del("\xff")}, api.ErrKey},
		{[]api.PatchOp{put("a", api.Value{})}, api.ErrKind}, {[]api.PatchOp{put("a", nest(16, num(1)))}, api.ErrDeep}, {[]api.PatchOp{put("a", api.Value{Kind: api.Text, Text: "\xff"}), {}}, api.ErrUTF}, {[]api.PatchOp{put("a", api.Value{Kind: api.Text, Text: strings.Repeat("k", 1023)})}, api.ErrLong},
	} {
		if e := May(x.l...); e != x.e {
			t.Errorf("%d: %v, want %v", i, e, x.e)
		}
		b, e := Apply(tree.Tree{}.Put("z", num(1)), x.l...)
		v, f := List(x.l...)
		s, g := Text(x.l...)
		if e != x.e || f != x.e || g != x.e || e != api.OK && (b.Root() != nil || v.Kind != 0 || s != "") {
			t.Errorf("%d: %v %v %v", i, e, f, g)
		}
	}
}

// P14.1: what each Kind does not name has to be zero.
func TestMayWhatIsNotNamed(t *testing.T) {
	for i, v := range []api.Value{{Kind: 1}, {Bool: true}, {Int: 1}, {Text: "a"}, {List: []api.Value{{}}}, {Object: []api.Member{{}}}} {
		if e := May(api.PatchOp{Kind: api.PatchDel, Key: "a", Value: v}); e != api.ErrArg {
			t.Error(i, e)
		}
		if e := May(api.PatchOp{Kind: api.PatchClear, Value: v}); e != api.ErrArg {
			t.Error(i, e)
		}
	}
}

func trees() (tree.Tree, tree.Tree) {
	return tree.Tree{}.Put("x", num(1)).Put("y", num(2)), tree.Tree{}.Put("y", num(3)).Put("z", num(4))
}

// P14.2
func TestFromReset(t *testing.T) {
	a, b := trees()
	if l := From(a, b); !reflect.DeepEqual(l, []api.PatchOp{del("x"), put("y", num(3)), put("z", num(4))}) {
		t.Error(l)
	}
	if l := Reset(b); !reflect.DeepEqual(l, []api.PatchOp{wipe, put("y", num(3)), put("z", num(4))}) {
		t.Error(l)
	}
	if len(From(a, a)) != 0 || len(From(tree.Tree{}, tree.Tree{})) != 0 || !reflect.DeepEqual(Reset(tree.Tree{}), []api.PatchOp{wipe}) {
		t.Error("of none")
	}
	odd := tree.Tree{}.Put("", api.Value{Kind: 9}).Put("\xff", list(num(1)))
	if l := From(tree.Tree{}, odd); !reflect.DeepEqual(l, []api.PatchOp{put("", api.Value{Kind: 9}), put("\xff", list(num(1)))}) {
		t.Error(l)
	}
	Reset(odd)[2].Value.List[0] = num(7)
	From(tree.Tree{}, odd)[1].Value.List[0] = num(7)
	if v, _ := odd.Get("\xff"); v.List[0].Int != 1 {
		t.Error("memory is shared")
	}
}

// P14.3
func TestApply(t *testing.T) {
	a, b := trees()
	if c, e := Apply(a, From(a, b)...); e != api.OK || !c.Same(b) {
		t.Error(e)
	}
	if c, e := Apply(a, wipe, put("k", num(1))); e != api.OK || !c.Same(tree.Tree{}.Put("k", num(1))) {
		t.Error(e)
	}
	if c, e := Apply(a, del("none")); e != api.OK || !c.Is(a) {
		t.Error(e)
	}
	v := list(num(1))
	c, _ := Apply(a, put("k", v))
	v.List[0] = num(2)
	if w, _ := c.Get("k"); w.List[0].Int != 1 {
		t.Error("what was handed in is kept")
	}
}

// P14.4
func TestListOfTextParse(t *testing.T) {
	a, b := trees()
	want := `[{"key":"x","op":"del"},{"key":"y","op":"put","value":3},{"key":"z","op":"put","value":4}]`
	if s, e := Text(From(a, b)...); s != want || e != api.OK {
		t.Error(s, e)
	}
	if s, e := Text(wipe, put("k", list())); s != `[{"op":"clear"},{"key":"k","op":"put","value":[]}]` || e != api.OK {
		t.Error(s, e)
	}
	if s, e := Text(); s != `[]` || e != api.OK {
		t.Error(s, e)
	}
	l, e := Parse(` [{"op":"clear"} , {"value":[1],"op":"put","key":"k"}]`)
	if e != api.OK || !reflect.DeepEqual(l, []api.PatchOp{wipe, put("k", list(num(1)))}) {
		t.Error(l, e)
	}
	v, _ := List(l...)
	m, _ := Of(v)
	v.List[1].Object[2].Value.List[0] = num(5)
	if l[1].Value.List[0].Int != 1 || m[1].Value.List[0].Int != 1 {
		t.Error("memory is shared")
	}
	for s, want := range map[string]api.Errno{
		`[`: api.ErrSyntax, `{}`: api.ErrKind, `1`: api.ErrKind, `[1]`: api.ErrKind, `[{}]`: api.ErrField, `[{"key":"a"}]`: api.ErrField, `[{"op":1}]`: api.ErrKind, `[{"op":1,"x":1}]`: api.ErrKind, `[{"op":"x"}]`: api.ErrNone, `[{"op":"x","key":1}]`: api.ErrNone,
		`[{"op":"del"}]`: api.ErrField, `[{"op":"del","key":"a","value":1}]`: api.ErrField, `[{"op":"put","key":"a"}]`: api.ErrField, `[{"op":"put","value":1}]`: api.ErrField, `[{"op":"clear","key":"a"}]`: api.ErrField, `[{"op":"del","key":1,"x":1}]`: api.ErrField, `[{"op":"del","x":1}]`: api.ErrField,
		`[{"op":"del","key":1}]`: api.ErrKind, `[{"op":"put","key":1,"value":1}]`: api.ErrKind, `[{"op":"del","key":""}]`: api.ErrKey, `[{"op":"del","key":""},1]`: api.ErrKind, `[{"op":"del","key":"b"},{"op":"del","key":"a"}]`: api.ErrArg, `[{"op":"del","key":"b"},{"op":"clear"}]`: api.ErrArg,
		`[{"op":"put","key":"a","value":"` + strings.Repeat("x", 1023) + `"}]`: api.ErrLong, "[{\"op\":\"\xff\"}]": api.ErrUTF,
	} {
		l, e := Parse(s)
		if e != want || l != nil {
			t.Errorf("%.60s: %v", s, e)
		}
		if v, _, e := parse.Parse(s); e == api.OK {
			if l, e := Of(v); e != want || l != nil {
				t.Errorf("Of %.60s: %v", s, e)
			}
		}
	}
	if l, e := Of(api.Value{Kind: api.List, List: []api.Value{num(1), {}}}); e != api.ErrKind || l != nil {
		t.Error(e)
	}
	if _, e := Of(api.Value{Kind: api.List, List: []api.Value{num(1), {Kind: api.Text, Text: "\xff"}}}); e != api.ErrUTF {
		t.Error(e)
	}
}

// P14.5
func TestWhatFollows(t *testing.T) {
	rnd := rand.New(rand.NewSource(16))
	some := func() tree.Tree {
		var a tree.Tree
		for range rnd.Intn(40) {
			a = a.Put(fmt.Sprint(rnd.Intn(40)), num(rnd.Intn(3)))
		}
		return a
	}
	for range 300 {
		a, b, c := some(), some(), some()
		l := From(a, b)
		changed := 0
		for _, x := range a.Entries() {
			if v, ok := b.Get(x.Key); !ok || v.Int != x.Value.Int {
				changed++
			}
		}
		for _, x := range b.Entries() {
			if _, ok := a.Get(x.Key); !ok {
				changed++
			}
		}
		if len(l) != changed {
			t.Fatal("not the shortest", len(l), changed)
		}
		if d, e := Apply(a, l...); e != api.OK || !d.Same(b) {
			t.Fatal(e)
		}
		if d, e := Apply(c, Reset(b)...); e != api.OK || !d.Same(b) {
			t.Fatal(e)
		}
		for _, p := range [][]api.PatchOp{l, Reset(b)} {
			v, _ := List(p...)
			m, e := Of(v)
			if e != api.OK || len(m) != len(p) || len(p) > 0 && !reflect.DeepEqual(m, p) {
				t.Fatal(e)
			}
			s, _ := Text(p...)
			if m, e := Parse(s); e != api.OK || len(m) != len(p) || len(p) > 0 && !reflect.DeepEqual(m, p) {
				t.Fatal(s, e)
			}
		}
	}
}
