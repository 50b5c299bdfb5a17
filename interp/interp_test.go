package interp

import (
	"fmt"
	"math/rand"
	"reflect"
	"strings"
	"testing"

	"commonplace/api"
	"commonplace/freeze"
	"commonplace/mutator"
	"commonplace/overlay"
	"commonplace/tree"
)

func num(i int) api.Value           { return api.Value{Kind: api.Int, Int: int64(i)} }
func text(s string) api.Value       { return api.Value{Kind: api.Text, Text: s} }
func list(l ...api.Value) api.Value { return api.Value{Kind: api.List, List: l} }

func of(t *testing.T, s string) tree.Tree {
	t.Helper()
	a, e := freeze.Of(s)
	if e != api.OK {
		t.Fatal(s, e)
	}
	return a
}

func mut(t *testing.T, s string) api.Mutator {
	t.Helper()
	m, e := mutator.Parse(s)
	if e != api.OK {
		t.Fatal(s, e)
	}
	return m
}

// P13.1, P13.2: what each kind does, and what it is refused for.
func TestRun(t *testing.T) {
	ones := "1" + strings.Repeat(",1", 255)
	digits := `"` + strings.Repeat("x", 1016) + `"`
	k60 := strings.Repeat("k", 60)
	deep := strings.Repeat("[", 15) + strings.Repeat("]", 15)
	for _, x := range []struct {
		over, m, want string
		e             api.Errno
	}{
		{`{}`, `{"name":"put","args":{"key":"a","value":1}}`, `{"a":1}`, api.OK},
		{`{"a":2}`, `{"name":"put","args":{"key":"a","value":[]}}`, `{"a":[]}`, api.OK},
		{`{"a":2}`, `{"name":"del","args":{"key":"a"}}`, `{}`, api.OK},
		{`{"a":2}`, `{"name":"del","args":{"key":"y"}}`, ``, api.ErrNone},
		{`{"x":1}`, `{"name":"inc","args":{"key":"x","by":2}}`, `{"x":3}`, api.OK},
		{`{}`, `{"name":"inc","args":{"key":"x","by":-2}}`, `{"x":-2}`, api.OK},
		{`{}`, `{"name":"inc","args":{"key":"x","by":0}}`, `{"x":0}`, api.OK},
		{`{"l":[]}`, `{"name":"inc","args":{"key":"l","by":2}}`, ``, api.ErrKind},
		{`{"x":9223372036854775807}`, `{"name":"inc","args":{"key":"x","by":1}}`, ``, api.ErrNum},
		{`{"x":9223372036854775806}`, `{"name":"inc","args":{"key":"x","by":1}}`, `{"x":9223372036854775807}`, api.OK},
		{`{"x":-1}`, `{"name":"inc","args":{"key":"x","by":-9223372036854775808}}`, ``, api.ErrNum},
		{`{"x":0}`, `{"name":"inc","args":{"key":"x","by":-9223372036854775808}}`, `{"x":-9223372036854775808}`, api.OK},
		{`{"x":-9223372036854775808}`, `{"name":"inc","args":{"key":"x","by":9223372036854775807}}`, `{"x":-1}`, api.OK},
		{`{"x":1}`, `{"name":"cas","args":{"key":"x","was":1,"is":2}}`, `{"x":2}`, api.OK},
		{`{"x":1}`, `{"name":"cas","args":{"key":"x","was":1}}`, `{}`, api.OK},
		{`{}`, `{"name":"cas","args":{"key":"x","is":2}}`, `{"x":2}`, api.OK},
		{`{"y":0}`, `{"name":"cas","args":{"key":"x"}}`, `{"y":0}`, api.OK},
		{`{"x":1}`, `{"name":"cas","args":{"key":"x","was":2}}`, ``, api.ErrState},
		{`{"x":1}`, `{"name":"cas","args":{"key":"x","is":2}}`, ``, api.ErrState},
		{`{}`, `{"name":"cas","args":{"key":"x","was":null,"is":2}}`, ``, api.ErrState},
		{`{"l":[]}`, `{"name":"append","args":{"key":"l","value":7}}`, `{"l":[7]}`, api.OK},
		{`{}`, `{"name":"append","args":{"key":"l","value":[]}}`, `{"l":[[]]}`, api.OK},
		{`{"l":[1]}`, `{"name":"append","args":{"key":"l","value":2}}`, `{"l":[1,2]}`, api.OK},
		{`{"l":1}`, `{"name":"append","args":{"key":"l","value":7}}`, ``, api.ErrKind},
		{`{"l":[` + ones + `]}`, `{"name":"append","args":{"key":"l","value":1}}`, ``, api.ErrLong},
		{`{"l":[` + ones + `,1]}`, `{"name":"append","args":{"key":"l","value":1}}`, ``, api.ErrLong},
		{`{"l":[` + ones[2:] + `]}`, `{"name":"append","args":{"key":"l","value":1}}`, `{"l":[` + ones + `]}`, api.OK},
		{`{"l":[` + digits + `]}`, `{"name":"append","args":{"key":"l","value":123}}`, `{"l":[` + digits + `,123]}`, api.OK},
		{`{"l":[` + digits + `]}`, `{"name":"append","args":{"key":"l","value":1234}}`, ``, api.ErrLong},
		{`{"l":[]}`, `{"name":"append","args":{"key":"l","value":` + deep + `}}`, `{"l":[` + deep + `]}`, api.OK},
		{`{"l":[]}`, `{"name":"append","args":{"key":"l","value":[` + deep + `]}}`, ``, api.ErrDeep},
		{`{"a/1":5,"a/2":6,"b":0}`, `{"name":"move","args":{"from":"a/","to":"c/"}}`, `{"b":0,"c/1":5,"c/2":6}`, api.OK},
		{`{"a":1}`, `{"name":"move","args":{"from":"x","to":"y"}}`, `{"a":1}`, api.OK},
		{`{"a":1,"aa":2,"aaa":3}`, `{"name":"move","args":{"from":"a","to":"aa"}}`, `{"aa":1,"aaa":2,"aaaa":3}`, api.OK},
		{`{"aa":1,"aaa":2}`, `{"name":"move","args":{"from":"aa","to":"a"}}`, `{"a":1,"aa":2}`, api.OK},
		{`{"a":0,"aa":1,"aaa":2}`, `{"name":"move","args":{"from":"aa","to":"a"}}`, ``, api.ErrState},
		{`{"a":1,"b":2}`, `{"name":"move","args":{"from":"a","to":"b"}}`, ``, api.ErrState},
		{`{"a":1,"b":2}`, `{"name":"move","args":{"from":"","to":"p/"}}`, `{"p/a":1,"p/b":2}`, api.OK},
		{`{"a":1,"b":2}`, `{"name":"move","args":{"from":"","to":""}}`, `{"a":1,"b":2}`, api.OK},
		{`{"a":1,"ab":2}`, `{"name":"move","args":{"from":"a","to":""}}`, ``, api.ErrKey},
		{`{"ab":1,"b":2}`, `{"name":"move","args":{"from":"a","to":""}}`, ``, api.ErrState},
		{`{"a":1,"ab":2,"b":3}`, `{"name":"move","args":{"from":"a","to":""}}`, ``, api.ErrKey},
		{`{"a1":1,"a12345":2,"` + k60 + `1":0}`, `{"name":"move","args":{"from":"a","to":"` + k60 + `"}}`, ``, api.ErrState},
		{`{"a":1,"a12345":2,"` + k60 + `1":0}`, `{"name":"move","args":{"from":"a","to":"` + k60 + `"}}`, ``, api.ErrKey},
		{`{"x":1}`, `{"name":"seq","args":{"do":[{"name":"inc","args":{"key":"x","by":1}},{"name":"put","args":{"key":"y","value":0}}]}}`, `{"x":2,"y":0}`, api.OK},
		{`{"x":1}`, `{"name":"seq","args":{"do":[{"name":"inc","args":{"key":"x","by":1}},{"name":"del","args":{"key":"y"}},{"name":"inc","args":{"key":"l","by":1}}]}}`, ``, api.ErrNone},
		{`{"x":1}`, `{"name":"seq","args":{"do":[{"name":"del","args":{"key":"x"}}],"if":{"key":"x","was":1}}}`, `{}`, api.OK},
		{`{"x":1}`, `{"name":"seq","args":{"do":[{"name":"del","args":{"key":"y"}}],"if":{"key":"x"}}}`, ``, api.ErrState},
		{`{"x":1}`, `{"name":"seq","args":{"do":[],"if":{"key":"y"}}}`, `{"x":1}`, api.OK},
		{`{}`, `{"name":"seq","args":{"do":[]}}`, `{}`, api.OK},
		{`{"x":1}`, `{"name":"seq","args":{"do":[{"name":"put","args":{"key":"z","value":1}},{"name":"seq","args":{"do":[{"name":"del","args":{"key":"x"}}],"if":{"key":"x","was":2}}}]}}`, ``, api.ErrState},
	} {
		a, m := of(t, x.over), mut(t, x.m)
		b, e := Run(a, m)
		if e != x.e {
			t.Errorf("%.60s over %.60s: %v, want %v", x.m, x.over, e, x.e)
			continue
		}
		if e != api.OK {
			if !b.Is(a) {
				t.Errorf("%.60s: refused, and another tree", x.m)
			}
		} else if s, _ := freeze.Text(b); s != x.want {
			t.Errorf("%.60s over %.60s: %s", x.m, x.over, s)
		}
		o := overlay.Begin(a)
		o.Put("zz", num(1))
		mark := o.Mark()
		if e := Do(o, m); e == x.e && e != api.OK {
			if o.Mark() != mark || !o.Commit().Same(a.Put("zz", num(1))) {
				t.Errorf("%.60s: the overlay is not as it was", x.m)
			}
		}
	}
}

func TestOwnErrorsComeFirst(t *testing.T) {
	a := of(t, `{"x":1}`)
	bad := api.Mutator{Kind: api.MutSeq, Key: "x", List: []api.Mutator{{Kind: api.MutDel}}}
	if Do(nil, bad) != api.ErrNil || Do(overlay.Begin(a), bad) != api.ErrKey {
		t.Error("Do")
	}
	if b, e := Run(a, bad); e != api.ErrKey || !b.Is(a) {
		t.Error("Run", e)
	}
	var zero overlay.Overlay
	if e := Do(&zero, mut(t, `{"name":"inc","args":{"key":"x","by":2}}`)); e != api.OK || zero.Commit().Len() != 1 {
		t.Error("a zero overlay", e)
	}
}

// What may not be in a map is not moved: the overlay's errors come last.
func TestMoveOfWhatMayNotBe(t *testing.T) {
	long := text(strings.Repeat("x", 2000))
	a := tree.Tree{}.Put("a1", long).Put("a2", num(1)).Put("b2", num(1))
	move := api.Mutator{Kind: api.MutMove, Key: "a", To: "b"}
	if b, e := Run(a, move); e != api.ErrState || !b.Is(a) {
		t.Error(e)
	}
	a, _ = a.Delete("b2")
	if b, e := Run(a, move); e != api.ErrLong || !b.Is(a) {
		t.Error(e)
	}
	odd := tree.Tree{}.Put("", num(1)).Put("a", num(2))
	if b, e := Run(odd, api.Mutator{Kind: api.MutSeq, List: []api.Mutator{{Kind: api.MutDel, Key: "a"}}}); e != api.OK || b.Len() != 1 {
		t.Error("a sequence without a guard", e)
	}
	if b, e := Run(odd, api.Mutator{Kind: api.MutMove, Key: "", To: "a"}); e != api.OK || b.Len() != 2 {
		t.Error(e)
	}
	if _, e := Run(odd, api.Mutator{Kind: api.MutMove}); e != api.ErrKey {
		t.Error(e)
	}
}

// P13.3
func TestFold(t *testing.T) {
	a := of(t, `{"n":5}`)
	inc, del := mut(t, `{"name":"inc","args":{"key":"n","by":1}}`), mut(t, `{"name":"del","args":{"key":"n"}}`)
	if b, n := Fold(a, inc, del, del, inc, api.Mutator{}); n != 2 || !b.Same(of(t, `{"n":1}`)) {
		t.Error(n, b.Entries())
	}
	if b, n := Fold(a); n != 0 || !b.Is(a) {
		t.Error(n)
	}
	if b, n := Fold(a, api.Mutator{}); n != 1 || !b.Is(a) {
		t.Error(n)
	}
}

func randomMutator(rnd *rand.Rand) api.Mutator {
	keys := []string{"a", "b", "a/1", "a/2", "b/1", "l"}
	m := api.Mutator{Kind: api.MutKind(1 + rnd.Intn(6)), Key: keys[rnd.Intn(6)]}
	switch m.Kind {
	case api.MutPut, api.MutAppend:
		m.Value = num(rnd.Intn(3))
	case api.MutInc:
		m.Int = int64(rnd.Intn(3))
	case api.MutCas:
		m.Had, m.Was = true, num(rnd.Intn(3))
		if rnd.Intn(2) == 0 {
			m.Has, m.Value = true, list()
		}
	case api.MutMove:
		m.Key, m.To = keys[rnd.Intn(2)], keys[rnd.Intn(2)]+"/"
	}
	return m
}

// P13.4
func TestWhatFollows(t *testing.T) {
	rnd := rand.New(rand.NewSource(14))
	done := 0
	for range 3000 {
		var a tree.Tree
		for range rnd.Intn(5) {
			a, _ = Run(a, randomMutator(rnd))
		}
		var l []api.Mutator
		for range rnd.Intn(4) {
			l = append(l, randomMutator(rnd))
		}
		b, refused := Fold(a, l...)
		c, e := Run(a, api.Mutator{Kind: api.MutSeq, List: l})
		if refused == 0 && (e != api.OK || !c.Same(b)) || refused > 0 && (e == api.OK || !c.Is(a)) {
			t.Fatal(l, e)
		}
		if e == api.OK {
			done++
		}
	}
	if done < 100 {
		t.Error("too few were done", done)
	}
}

func TestMoveBack(t *testing.T) {
	rnd := rand.New(rand.NewSource(15))
	for range 2000 {
		var a tree.Tree
		for range rnd.Intn(12) {
			a = a.Put([]string{"a", "b"}[rnd.Intn(2)]+fmt.Sprint(rnd.Intn(30)), num(rnd.Intn(9)))
		}
		from, to := []string{"a", "b", "a1", ""}[rnd.Intn(4)], []string{"b", "c", "aa"}[rnd.Intn(3)]
		if clash := to != from && len(overlay.Begin(a).Prefix(to)) > 0; clash {
			continue
		}
		b, e := Run(a, api.Mutator{Kind: api.MutMove, Key: from, To: to})
		if e != api.OK {
			continue
		}
		if c, e := Run(b, api.Mutator{Kind: api.MutMove, Key: to, To: from}); e != api.OK || !reflect.DeepEqual(c.Entries(), a.Entries()) {
			t.Fatal(a.Entries(), from, to, e)
		}
	}
}
