package mutator

import (
	"math/rand"
	"reflect"
	"strings"
	"testing"

	"commonplace/api"
	"commonplace/encode"
	"commonplace/parse"
	"commonplace/value"
)

func num(i int) api.Value           { return api.Value{Kind: api.Int, Int: int64(i)} }
func text(s string) api.Value       { return api.Value{Kind: api.Text, Text: s} }
func list(l ...api.Value) api.Value { return api.Value{Kind: api.List, List: l} }

func nest(n int, v api.Value) api.Value {
	for range n {
		v = list(v)
	}
	return v
}

func seq(l ...api.Mutator) api.Mutator { return api.Mutator{Kind: api.MutSeq, List: l} }

func seqs(n int, m api.Mutator) api.Mutator {
	for range n {
		m = seq(m)
	}
	return m
}

var del = api.Mutator{Kind: api.MutDel, Key: "a"}

// samples are mutators that may be, by their texts.
func samples() map[string]api.Mutator {
	return map[string]api.Mutator{
		`{"args":{"key":"k","value":[1]},"name":"put"}`:                                           {Kind: api.MutPut, Key: "k", Value: list(num(1))},
		`{"args":{"key":"a"},"name":"del"}`:                                                       del,
		`{"args":{"by":2,"key":"n"},"name":"inc"}`:                                                {Kind: api.MutInc, Key: "n", Int: 2},
		`{"args":{"by":-9223372036854775808,"key":"n"},"name":"inc"}`:                             {Kind: api.MutInc, Key: "n", Int: -1 << 63},
		`{"args":{"is":1,"key":"k"},"name":"cas"}`:                                                {Kind: api.MutCas, Key: "k", Has: true, Value: num(1)},
		`{"args":{"key":"k","was":null},"name":"cas"}`:                                            {Kind: api.MutCas, Key: "k", Had: true, Was: api.Value{Kind: api.Null}},
		`{"args":{"is":[],"key":"k","was":{}},"name":"cas"}`:                                      {Kind: api.MutCas, Key: "k", Had: true, Was: api.Value{Kind: api.Object}, Has: true, Value: list()},
		`{"args":{"key":"k"},"name":"cas"}`:                                                       {Kind: api.MutCas, Key: "k"},
		`{"args":{"key":"k","value":"v"},"name":"append"}`:                                        {Kind: api.MutAppend, Key: "k", Value: text("v")},
		`{"args":{"from":"a/","to":""},"name":"move"}`:                                            {Kind: api.MutMove, Key: "a/"},
		`{"args":{"from":"","to":"é"},"name":"move"}`:                                             {Kind: api.MutMove, To: "é"},
		`{"args":{"do":[]},"name":"seq"}`:                                                         seq(),
		`{"args":{"do":[{"args":{"key":"a"},"name":"del"}],"if":{"key":"k"}},"name":"seq"}`:       {Kind: api.MutSeq, Key: "k", List: []api.Mutator{del}},
		`{"args":{"do":[{"args":{"do":[]},"name":"seq"}],"if":{"key":"k","was":1}},"name":"seq"}`: {Kind: api.MutSeq, Key: "k", Had: true, Was: num(1), List: []api.Mutator{seq()}},
	}
}

// P11.1
func TestMay(t *testing.T) {
	long := strings.Repeat("k", 65)
	var many []api.Mutator
	for range 63 {
		many = append(many, del)
	}
	for i, x := range []struct {
		m api.Mutator
		e api.Errno
	}{
		{seq(many...), api.OK}, {seq(append(many, del)...), api.ErrLong}, {seq(append(many, api.Mutator{})...), api.ErrLong}, {api.Mutator{List: append(many, del)}, api.ErrLong},
		{api.Mutator{}, api.ErrKind}, {api.Mutator{Kind: 8}, api.ErrKind}, {api.Mutator{Kind: -1}, api.ErrKind},
		{api.Mutator{Kind: api.MutPut, Key: "a", Value: num(1), To: "b"}, api.ErrKind}, {api.Mutator{Kind: api.MutPut, Key: "a", Value: num(1), Has: true}, api.ErrKind}, {api.Mutator{Kind: api.MutPut, Key: "", Value: num(1), Int: 1}, api.ErrKind},
		{api.Mutator{Kind: api.MutDel, Key: "a", Value: num(1)}, api.ErrKind}, {api.Mutator{Kind: api.MutDel, Key: "a", Had: true, Was: num(1)}, api.ErrKind}, {api.Mutator{Kind: api.MutDel, Key: "a", List: []api.Mutator{del}}, api.ErrKind},
		{api.Mutator{Kind: api.MutDel, Key: "a", Value: api.Value{List: []api.Value{}}, List: []api.Mutator{}}, api.OK},
		{api.Mutator{Kind: api.MutInc, Key: "a", Has: true}, api.ErrKind}, {api.Mutator{Kind: api.MutMove, Int: 1}, api.ErrKind}, {api.Mutator{Kind: api.MutAppend, Key: "a", Value: num(1), Was: num(1)}, api.ErrKind},
		{api.Mutator{Kind: api.MutCas, Key: "a", Was: num(1)}, api.ErrKind}, {api.Mutator{Kind: api.MutCas, Key: "a", Value: num(1)}, api.ErrKind}, {api.Mutator{Kind: api.MutCas, Key: "a", To: "x"}, api.ErrKind}, {api.Mutator{Kind: api.MutCas, Key: "a", List: []api.Mutator{del}}, api.ErrKind},
		{api.Mutator{Kind: api.MutSeq, Key: "a", Was: num(1)}, api.ErrKind}, {api.Mutator{Kind: api.MutSeq, Has: true}, api.ErrKind}, {api.Mutator{Kind: api.MutSeq, Value: num(1)}, api.ErrKind},
		{seqs(5, del), api.OK}, {seqs(6, del), api.ErrDeep}, {seqs(6, api.Mutator{}), api.ErrKind}, {seqs(6, api.Mutator{Kind: api.MutDel}), api.ErrDeep}, {seqs(5, seq()), api.OK},
		{api.Mutator{Kind: api.MutDel}, api.ErrKey}, {api.Mutator{Kind: api.MutDel, Key: long}, api.ErrKey}, {api.Mutator{Kind: api.MutDel, Key: "\xff"}, api.ErrKey}, {api.Mutator{Kind: api.MutPut}, api.ErrKey}, {api.Mutator{Kind: api.MutCas, Had: true}, api.ErrKey},
		{api.Mutator{Kind: api.MutMove}, api.OK}, {api.Mutator{Kind: api.MutMove, Key: long}, api.ErrKey}, {api.Mutator{Kind: api.MutMove, To: long}, api.ErrKey}, {api.Mutator{Kind: api.MutMove, Key: "\xc3"}, api.ErrKey}, {api.Mutator{Kind: api.MutMove, To: "\xc3"}, api.ErrKey}, {api.Mutator{Kind: api.MutMove, Key: long[:64], To: long[:64]}, api.OK},
		{api.Mutator{Kind: api.MutSeq, Had: true, Was: num(1)}, api.ErrKey}, {api.Mutator{Kind: api.MutSeq, Key: long}, api.ErrKey}, {api.Mutator{Kind: api.MutSeq, Key: "\xff"}, api.ErrKey},
		{api.Mutator{Kind: api.MutCas, Key: "a", Had: true}, api.ErrKind}, {api.Mutator{Kind: api.MutCas, Key: "a", Had: true, Was: text("\xff"), Has: true, Value: nest(16, num(1))}, api.ErrUTF}, {api.Mutator{Kind: api.MutCas, Key: "a", Had: true, Was: num(1), Has: true, Value: nest(16, num(1))}, api.ErrDeep},
		{api.Mutator{Kind: api.MutPut, Key: "a", Value: text(strings.Repeat("x", 1023))}, api.ErrLong}, {api.Mutator{Kind: api.MutPut, Key: "a"}, api.ErrKind}, {api.Mutator{Kind: api.MutAppend, Key: "a", Value: nest(15, num(1))}, api.OK}, {api.Mutator{Kind: api.MutAppend, Key: "a", Value: nest(16, num(1))}, api.ErrDeep},
		{api.Mutator{Kind: api.MutSeq, Key: "a", Had: true, Was: text("\xff"), List: []api.Mutator{{}}}, api.ErrUTF},
		{seq(api.Mutator{Kind: api.MutDel}, api.Mutator{}), api.ErrKey}, {seq(seq(api.Mutator{}), api.Mutator{Kind: api.MutDel}), api.ErrKind},
	} {
		if e := May(x.m); e != x.e {
			t.Errorf("%d: %v, want %v", i, e, x.e)
		}
		v, e := Object(x.m)
		s, f := Text(x.m)
		if e != x.e || f != x.e || (e != api.OK) != (v.Kind == 0) || (e != api.OK) != (s == "") {
			t.Errorf("%d: %v %v", i, e, f)
		}
	}
	for s, m := range samples() {
		if e := May(m); e != api.OK {
			t.Error(s, e)
		}
	}
}

// zeroButOne are values of which just one field is not zero.
func zeroButOne() []api.Value {
	return []api.Value{{Kind: 1}, {Bool: true}, {Int: 1}, {Text: "a"}, {List: []api.Value{{}}}, {Object: []api.Member{{}}}}
}

// P11.1: what each Kind does not name has to be zero.
func TestMayWhatIsNotNamed(t *testing.T) {
	good := map[api.MutKind]api.Mutator{
		api.MutPut:    {Kind: api.MutPut, Key: "a", Value: num(1)},
		api.MutDel:    del,
		api.MutInc:    {Kind: api.MutInc, Key: "a", Int: 1},
		api.MutCas:    {Kind: api.MutCas, Key: "a"},
		api.MutAppend: {Kind: api.MutAppend, Key: "a", Value: num(1)},
		api.MutMove:   {Kind: api.MutMove, Key: "a", To: "b"},
		api.MutSeq:    {Kind: api.MutSeq, Key: "a", List: []api.Mutator{del}},
	}
	fields := map[string]func(m *api.Mutator){
		"To": func(m *api.Mutator) { m.To = "x" }, "Int": func(m *api.Mutator) { m.Int = 7 }, "Had": func(m *api.Mutator) { m.Had, m.Was = true, num(1) }, "Has": func(m *api.Mutator) { m.Has, m.Value = true, num(1) }, "List": func(m *api.Mutator) { m.List = []api.Mutator{del} },
		"Had alone": func(m *api.Mutator) { m.Had = true }, "Has alone": func(m *api.Mutator) { m.Has = true },
	}
	named := map[api.MutKind]string{api.MutInc: " Int ", api.MutCas: " Had Has Had alone Has alone ", api.MutMove: " To ", api.MutSeq: " Had List Had alone "}
	for k, m := range good {
		if e := May(m); e != api.OK {
			t.Error(k, e)
		}
		for name, change := range fields {
			n := Copy(m)
			change(&n)
			if e := May(n); e != api.ErrKind && !strings.Contains(named[k], " "+name+" ") {
				t.Error(k, name, e)
			}
		}
		for i, v := range zeroButOne() {
			n := Copy(m)
			n.Was = v
			if e := May(n); e != api.ErrKind {
				t.Error(k, "Was", i, e)
			}
			if k == api.MutPut || k == api.MutAppend {
				continue
			}
			n = Copy(m)
			n.Value = v
			if e := May(n); e != api.ErrKind {
				t.Error(k, "Value", i, e)
			}
		}
	}
}

// P11.2
func TestTextParse(t *testing.T) {
	for want, m := range samples() {
		s, e := Text(m)
		if s != want || e != api.OK {
			t.Errorf("%s: %s %v", want, s, e)
		}
		n, e := Parse(" " + strings.ReplaceAll(s, `"name"`, ` "na\u006de" `))
		if e != api.OK || !reflect.DeepEqual(n, m) && !Same(n, m) || May(n) != api.OK {
			t.Errorf("%s: %v %v", want, n, e)
		}
	}
	if m, e := Parse(`{"name":"inc","args":{"key":"n","by":2}}`); e != api.OK || !Same(m, api.Mutator{Kind: api.MutInc, Key: "n", Int: 2}) {
		t.Error(m, e)
	}
}

func TestReadErrors(t *testing.T) {
	many := strings.Repeat(`{"args":{"key":"a"},"name":"del"},`, 64)
	seven := `{"args":{"key":"a"},"name":"del"}`
	for range 6 {
		seven = `{"args":{"do":[` + seven + `]},"name":"seq"}`
	}
	for s, want := range map[string]api.Errno{
		`{`: api.ErrSyntax, `[]`: api.ErrKind, `1`: api.ErrKind, `{}`: api.ErrField, `{"args":{}}`: api.ErrField, `{"name":"del"}`: api.ErrField, `{"args":{"key":"a"},"name":"del","x":1}`: api.ErrField, `{"a":1,"args":{"key":"a"},"name":"del"}`: api.ErrField,
		`{"args":1,"name":2}`: api.ErrKind, `{"args":1,"name":"x"}`: api.ErrNone, `{"args":1,"name":""}`: api.ErrNone, `{"args":1,"name":"del"}`: api.ErrKind, `{"args":{},"name":"del"}`: api.ErrField, `{"args":{"key":1},"name":"del"}`: api.ErrKind, `{"args":{"key":""},"name":"del"}`: api.ErrKey,
		`{"args":{"key":1,"x":1},"name":"del"}`: api.ErrField, `{"args":{"key":"a"},"name":"put"}`: api.ErrField, `{"args":{"key":"a","value":1,"was":1},"name":"put"}`: api.ErrField, `{"args":{"by":"1","key":1},"name":"inc"}`: api.ErrKind, `{"args":{"by":1,"key":1},"name":"inc"}`: api.ErrKind, `{"args":{"by":"1","key":"a"},"name":"inc"}`: api.ErrKind, `{"args":{"by":1,"key":""},"name":"inc"}`: api.ErrKey, `{"args":{"is":1,"was":1},"name":"cas"}`: api.ErrField, `{"args":{"is":1,"key":"","was":1},"name":"cas"}`: api.ErrKey,
		`{"args":{"from":1,"to":""},"name":"move"}`: api.ErrKind, `{"args":{"from":"","to":1},"name":"move"}`: api.ErrKind, `{"args":{"key":"","to":""},"name":"move"}`: api.ErrField,
		`{"args":{"do":{}},"name":"seq"}`: api.ErrKind, `{"args":{"do":[1]},"name":"seq"}`: api.ErrKind, `{"args":{"do":[{}],"if":1},"name":"seq"}`: api.ErrField, `{"args":{"if":{"key":"a"}},"name":"seq"}`: api.ErrField, `{"args":{"do":[],"if":[]},"name":"seq"}`: api.ErrKind, `{"args":{"do":[],"if":{}},"name":"seq"}`: api.ErrField, `{"args":{"do":[],"if":{"was":1}},"name":"seq"}`: api.ErrField, `{"args":{"do":[],"if":{"key":1}},"name":"seq"}`: api.ErrKind, `{"args":{"do":[],"if":{"key":1,"x":1}},"name":"seq"}`: api.ErrField, `{"args":{"do":[],"if":{"key":""}},"name":"seq"}`: api.ErrKey, `{"args":{"do":[],"if":{"key":"","was":1}},"name":"seq"}`: api.ErrKey,
		`{"args":{"do":[{"args":{"key":""},"name":"del"},1]},"name":"seq"}`: api.ErrKind, `{"args":{"do":[{"args":{},"name":"y"},1]},"name":"seq"}`: api.ErrNone, `{"args":{"do":[{"args":{"key":""},"name":"del"}],"if":{"key":""}},"name":"seq"}`: api.ErrKey,
		`{"args":{"do":[` + strings.TrimSuffix(many, ",") + `]},"name":"seq"}`: api.ErrLong, seven: api.ErrDeep, `{"args":{"do":[` + many + `1]},"name":"seq"}`: api.ErrKind,
		`{"args":{"key":"a","value":"` + strings.Repeat("x", 1023) + `"},"name":"put"}`: api.ErrLong,
	} {
		m, e := Parse(s)
		if e != want || !reflect.DeepEqual(m, api.Mutator{}) {
			t.Errorf("%.80s: %v, want %v", s, e, want)
		}
		if v, _, e := parse.Parse(s); e == api.OK {
			if _, e := Of(v); e != want {
				t.Errorf("Of %.80s: %v, want %v", s, e, want)
			}
		}
	}
	for i, x := range []struct {
		v api.Value
		e api.Errno
	}{{api.Value{}, api.ErrKind}, {list(text("\xff")), api.ErrUTF}, {api.Value{Kind: api.Object, Object: []api.Member{{Key: "name", Value: text("del")}, {Key: "args"}}}, api.ErrKey}, {nest(64, num(1)), api.ErrDeep}} {
		if m, e := Of(x.v); e != x.e || m.Kind != 0 {
			t.Error(i, e)
		}
	}
}

func TestNewMemory(t *testing.T) {
	m := api.Mutator{Kind: api.MutSeq, Key: "k", Had: true, Was: list(num(1)), List: []api.Mutator{{Kind: api.MutPut, Key: "a", Value: list(num(2))}}}
	v, _ := Object(m)
	n, _ := Of(v)
	c := Copy(m)
	m.Was.List[0], m.List[0].Value.List[0] = num(8), num(9)
	s, _ := encode.Text(v)
	args := v.Object[0].Value.Object
	args[0].Value.List[0].Object[0].Value.Object[1].Value.List[0] = num(5)
	args[1].Value.Object[1].Value.List[0] = num(6)
	if want := `{"args":{"do":[{"args":{"key":"a","value":[2]},"name":"put"}],"if":{"key":"k","was":[1]}},"name":"seq"}`; s != want {
		t.Error(s)
	}
	for _, x := range []api.Mutator{n, c} {
		if x.Was.List[0].Int != 1 || x.List[0].Value.List[0].Int != 2 {
			t.Error("memory is shared")
		}
	}
	for i := range v.Object[0].Value.Object {
		v.Object[0].Value.Object[i].Value = num(3)
	}
	c.List[0].Key = "z"
	if m.List[0].Key != "a" || n.List[0].Key != "a" {
		t.Error("memory is shared")
	}
}

// P11.3
func TestCopySameSizeDeep(t *testing.T) {
	odd := api.Mutator{Kind: 77, Key: "\xff", To: "t", Int: 3, Had: true, Was: api.Value{Kind: 50, Int: 2}, Has: true, Value: list(num(1)), List: []api.Mutator{{}, {Kind: api.MutDel, List: []api.Mutator{del}}}}
	if c := Copy(odd); !reflect.DeepEqual(c, odd) || !Same(c, odd) {
		t.Error(c)
	}
	if Size(odd) != 4 || Deep(odd) != 3 || Size(del) != 1 || Deep(del) != 1 || Size(seq()) != 1 {
		t.Error(Size(odd), Deep(odd))
	}
	for i, change := range []func(m *api.Mutator){
		func(m *api.Mutator) { m.Kind = 78 }, func(m *api.Mutator) { m.Key = "x" }, func(m *api.Mutator) { m.To = "x" }, func(m *api.Mutator) { m.Int = 4 }, func(m *api.Mutator) { m.Had = false }, func(m *api.Mutator) { m.Was.Kind = api.Int },
		func(m *api.Mutator) { m.Has = false }, func(m *api.Mutator) { m.Value.List[0].Int = 2 }, func(m *api.Mutator) { m.List[1].List[0].Key = "b" }, func(m *api.Mutator) { m.List = m.List[:1] }, func(m *api.Mutator) { m.List = append(m.List, del) },
	} {
		c := Copy(odd)
		change(&c)
		if Same(c, odd) || Same(odd, c) {
			t.Error(i)
		}
	}
	c := Copy(odd)
	c.Was.Int = 99
	if !Same(c, odd) {
		t.Error("values are not held against each other as values")
	}
}

// P11.4
func TestKeys(t *testing.T) {
	m := api.Mutator{Kind: api.MutSeq, Key: "g", List: []api.Mutator{{Kind: api.MutDel, Key: "b"}, {Kind: api.MutMove, Key: "m", To: "t", List: []api.Mutator{{Kind: 50, Key: "a"}}}, {Kind: api.MutInc}, {Kind: api.MutInc, Key: "b"}, {Kind: api.MutSeq, List: []api.Mutator{{Kind: api.MutPut, Key: "\xff"}}}}}
	if l := Keys(m); !reflect.DeepEqual(l, []string{"a", "b", "g", "\xff"}) {
		t.Error(l)
	}
	if len(Keys(api.Mutator{Kind: api.MutMove, Key: "x"})) != 0 || len(Keys(api.Mutator{})) != 0 {
		t.Error("of none")
	}
}

func randomMutator(rnd *rand.Rand, deep int) api.Mutator {
	keys := []string{"a", "b", "é"}
	m := api.Mutator{Kind: api.MutKind(1 + rnd.Intn(7)), Key: keys[rnd.Intn(3)]}
	switch m.Kind {
	case api.MutPut, api.MutAppend:
		m.Value = num(rnd.Intn(2))
	case api.MutInc:
		m.Int = int64(rnd.Intn(3))
	case api.MutCas:
		if rnd.Intn(2) == 0 {
			m.Had, m.Was = true, num(rnd.Intn(2))
		}
		if rnd.Intn(2) == 0 {
			m.Has, m.Value = true, list(num(rnd.Intn(2)))
		}
	case api.MutMove:
		m.To = keys[rnd.Intn(3)]
	case api.MutSeq:
		if rnd.Intn(2) == 0 {
			m.Key = ""
		} else if rnd.Intn(2) == 0 {
			m.Had, m.Was = true, text("x")
		}
		for range rnd.Intn(3) {
			if deep > 1 {
				m.List = append(m.List, randomMutator(rnd, deep-1))
			}
		}
	}
	return m
}

// P11.5
func TestWhatFollows(t *testing.T) {
	rnd := rand.New(rand.NewSource(12))
	seen := map[string]api.Mutator{}
	for range 5000 {
		m := randomMutator(rnd, 3)
		v, e := Object(m)
		n, f := Of(v)
		if e != api.OK || f != api.OK || !Same(m, n) || value.May(v) != api.OK {
			t.Fatal(m, e, f)
		}
		s, _ := Text(m)
		n, f = Parse(s)
		if f != api.OK || !Same(m, n) {
			t.Fatal(s, f)
		}
		if other, ok := seen[s]; ok && !Same(other, m) {
			t.Fatal(s)
		}
		seen[s] = m
	}
}

// P0.7
func TestDeepNesting(t *testing.T) {
	m := seqs(1<<16-1, del)
	if May(m) != api.ErrLong || Deep(m) != 1<<16 || Size(m) != 1<<16 || !Same(m, Copy(m)) || len(Keys(m)) != 1 {
		t.Error("deep nesting")
	}
}
