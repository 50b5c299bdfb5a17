package parse

import (
	"math/rand"
	"reflect"
	"strings"
	"testing"

	"commonplace/api"
	"commonplace/encode"
	"commonplace/value"
)

func num(i int64) api.Value { return api.Value{Kind: api.Int, Int: i} }

// P4.1
func TestParse(t *testing.T) {
	v, at, e := Parse(` {"b":1, "a" : [ ]} `)
	want := api.Value{Kind: api.Object, Object: []api.Member{{Key: "a", Value: api.Value{Kind: api.List}}, {Key: "b", Value: num(1)}}}
	if !reflect.DeepEqual(v, want) || at != 20 || e != api.OK {
		t.Error(v, at, e)
	}
	for s, want := range map[string]string{
		"null": "null", "\t\n\r true": "true", "false ": "false", "0": "0", "-1": "-1", "9223372036854775807": "9223372036854775807", "-9223372036854775808": "-9223372036854775808",
		`"\u0041"`: `"A"`, "[ ]": "[]", "{ }": "{}", "[1 , 2]": "[1,2]", `{"":{"a":null}}`: `{"":{"a":null}}`, `{"b":1,"\u0061":2}`: `{"a":2,"b":1}`,
		"[" + strings.Repeat("[{\"a\":[]}],", 99) + "0]":  "[" + strings.Repeat("[{\"a\":[]}],", 99) + "0]",
		strings.Repeat("[", 64) + strings.Repeat("]", 64): strings.Repeat("[", 64) + strings.Repeat("]", 64),
	} {
		v, at, e := Parse(s)
		got, f := encode.Text(v)
		if got != want || at != len(s) || e != api.OK || f != api.OK {
			t.Errorf("%s: %s %d %v", s, got, at, e)
		}
	}
}

func TestErrors(t *testing.T) {
	deep := strings.Repeat("[", 64)
	for _, x := range []struct {
		s  string
		at int
		e  api.Errno
	}{
		{"", 0, api.ErrSyntax}, {"  ", 2, api.ErrSyntax}, {"x", 0, api.ErrSyntax}, {"\x00", 0, api.ErrSyntax}, {"\v1", 0, api.ErrSyntax},
		{"01", 1, api.ErrSyntax}, {"-01", 2, api.ErrSyntax}, {"-00", 2, api.ErrSyntax}, {"-0", 0, api.ErrNum}, {" -0 x", 1, api.ErrNum}, {"-", 1, api.ErrSyntax}, {"-x", 1, api.ErrSyntax}, {"+1", 0, api.ErrSyntax},
		{"1.5", 1, api.ErrSyntax}, {"1e3", 1, api.ErrSyntax}, {"[9223372036854775808]", 1, api.ErrNum}, {"-9223372036854775809", 0, api.ErrNum}, {"99999999999999999999999x", 0, api.ErrNum},
		{"[1,]", 3, api.ErrSyntax}, {"[,1]", 1, api.ErrSyntax}, {"[1 2]", 3, api.ErrSyntax}, {"[", 1, api.ErrSyntax}, {"[1", 2, api.ErrSyntax}, {"[1,", 3, api.ErrSyntax}, {"[1}", 2, api.ErrSyntax},
		{`{"a":1,"a":2}`, 7, api.ErrKey}, {`{"a":1, "\u0061":2}`, 8, api.ErrKey}, {`{"a":1,"a" 2}`, 7, api.ErrKey}, {`{"a":1,"a`, 9, api.ErrSyntax},
		{`{a:1}`, 1, api.ErrSyntax}, {`{"a" 1}`, 5, api.ErrSyntax}, {`{"a":}`, 5, api.ErrSyntax}, {`{"a":1,}`, 7, api.ErrSyntax}, {`{"a":1 "b":2}`, 7, api.ErrSyntax}, {`{`, 1, api.ErrSyntax}, {`{"a"`, 4, api.ErrSyntax}, {`{"a":1`, 6, api.ErrSyntax}, {`{1:1}`, 1, api.ErrSyntax},
		{"tru", 0, api.ErrSyntax}, {"[nul]", 1, api.ErrSyntax}, {"nullx", 4, api.ErrSyntax}, {"falsetrue", 5, api.ErrSyntax}, {"1 2", 2, api.ErrSyntax}, {"[]]", 2, api.ErrSyntax},
		{`["\xff"]`, 2, api.ErrSyntax}, {"[\"\xff\"]", 2, api.ErrUTF}, {`"\ud800"`, 1, api.ErrUTF}, {"{\"a\n\":1}", 3, api.ErrSyntax}, {"\"\xff", 1, api.ErrUTF}, {"\xff", 0, api.ErrSyntax},
		{deep + "1", 64, api.ErrDeep}, {deep + " \"", 65, api.ErrDeep}, {deep + "nul", 64, api.ErrDeep}, {deep + "-", 64, api.ErrDeep}, {deep + "x", 64, api.ErrSyntax}, {deep + "{", 64, api.ErrDeep}, {deep, 64, api.ErrSyntax}, {deep + "]", 65, api.ErrSyntax},
		{strings.Repeat(`{"a":`, 64) + "1", 320, api.ErrDeep},
	} {
		v, at, e := Parse(x.s)
		if at != x.at || e != x.e || !reflect.DeepEqual(v, api.Value{}) {
			t.Errorf("%q: %d %v, want %d %v", x.s, at, e, x.at, x.e)
		}
		if v, e := Exact(x.s); e != x.e || !reflect.DeepEqual(v, api.Value{}) {
			t.Errorf("Exact %q: %v", x.s, e)
		}
	}
}

// P4.2
func TestExact(t *testing.T) {
	for s, want := range map[string]api.Errno{`{"a":[1,"é"],"b":null}`: api.OK, `{"b":1,"a":2}`: api.ErrSyntax, ` 1`: api.ErrSyntax, `1 `: api.ErrSyntax, `"\u0041"`: api.ErrSyntax, `"\/"`: api.ErrSyntax, `"\u000a"`: api.ErrSyntax, `"\u001F"`: api.ErrSyntax, `"\u001f"`: api.OK, `[1, 2]`: api.ErrSyntax} {
		v, e := Exact(s)
		if e != want {
			t.Errorf("%s: %v", s, e)
		}
		if e != api.OK {
			if v.Kind != 0 {
				t.Errorf("%s: a value beside an error", s)
			}
			continue
		}
		if own, _ := encode.Text(v); own != s {
			t.Errorf("%s: %s", s, own)
		}
	}
}

func randomValue(rnd *rand.Rand, deep int) api.Value {
	switch k := rnd.Intn(6); {
	case k == 0:
		return api.Value{Kind: api.Bool, Bool: rnd.Intn(2) == 0}
	case k == 1:
		return num(rnd.Int63() >> rnd.Intn(63) * int64(1-2*rnd.Intn(2)))
	case k == 2:
		return api.Value{Kind: api.Text, Text: []string{"", "a b", "\"", "\n", "[]", "é\U0001f600"}[rnd.Intn(6)]}
	case k == 3 && deep > 0:
		v := api.Value{Kind: api.List}
		for range rnd.Intn(3) {
			v.List = append(v.List, randomValue(rnd, deep-1))
		}
		return v
	case k == 4 && deep > 0:
		v := api.Value{Kind: api.Object}
		for _, key := range []string{"", "a", "b,"}[:rnd.Intn(4)] {
			v.Object = append(v.Object, api.Member{Key: key, Value: randomValue(rnd, deep-1)})
		}
		return v
	}
	return api.Value{Kind: api.Null}
}

// spelled is a text of a value with blanks, and with members turned about.
func spelled(rnd *rand.Rand, v api.Value) string {
	blank := func() string { return []string{"", " ", "\t\r", "\n "}[rnd.Intn(4)] }
	switch v.Kind {
	case api.List:
		var l []string
		for _, w := range v.List {
			l = append(l, spelled(rnd, w))
		}
		return blank() + "[" + blank() + strings.Join(l, ",") + "]" + blank()
	case api.Object:
		var l []string
		for _, m := range v.Object {
			key, _ := encode.Text(api.Value{Kind: api.Text, Text: m.Key})
			l = append(l, blank()+key+blank()+":"+spelled(rnd, m.Value))
		}
		rnd.Shuffle(len(l), func(i, j int) { l[i], l[j] = l[j], l[i] })
		return blank() + "{" + blank() + strings.Join(l, ",") + "}" + blank()
	}
	s, _ := encode.Text(v)
	return blank() + s + blank()
}

// P4.3
func TestParseOfText(t *testing.T) {
	rnd := rand.New(rand.NewSource(5))
	for range 3000 {
		v := randomValue(rnd, 3)
		for range 3 {
			s := spelled(rnd, v)
			w, at, e := Parse(s)
			if e != api.OK || at != len(s) || !value.Same(v, w) || value.May(w) != api.OK {
				t.Fatalf("%q: %v %d %v", s, w, at, e)
			}
		}
		s, _ := encode.Text(v)
		if w, e := Exact(s); e != api.OK || !value.Same(v, w) {
			t.Fatalf("%q: %v", s, e)
		}
	}
}

// P0.7: whatever bytes are read, nothing panics, and what is read may be.
func TestAnyBytes(t *testing.T) {
	rnd := rand.New(rand.NewSource(6))
	parts := []string{"[", "]", "{", "}", ",", ":", `"a"`, `"`, "1", "-", "0", "null", "tru", " ", "\\", "\xff"}
	for range 20000 {
		s := ""
		for range rnd.Intn(8) {
			s += parts[rnd.Intn(len(parts))]
		}
		v, at, e := Parse(s)
		if at < 0 || at > len(s) || e == api.OK && value.May(v) != api.OK {
			t.Fatalf("%q: %d %v", s, at, e)
		}
	}
	if _, _, e := Parse(strings.Repeat("[", 1<<16)); e != api.ErrDeep {
		t.Error(e)
	}
}
