package encode

import (
	"encoding/json"
	"math/rand"
	"strings"
	"testing"

	"commonplace/api"
	"commonplace/utf"
	"commonplace/value"
)

func num(i int64) api.Value            { return api.Value{Kind: api.Int, Int: i} }
func text(s string) api.Value          { return api.Value{Kind: api.Text, Text: s} }
func list(l ...api.Value) api.Value    { return api.Value{Kind: api.List, List: l} }
func object(l ...api.Member) api.Value { return api.Value{Kind: api.Object, Object: l} }

func nest(n int, v api.Value) api.Value {
	for range n {
		v = list(v)
	}
	return v
}

var null = api.Value{Kind: api.Null}

// P3.1
func TestTextBytes(t *testing.T) {
	for want, v := range map[string]api.Value{
		`null`: null, `false`: {Kind: api.Bool}, `true`: {Kind: api.Bool, Bool: true},
		`0`: num(0), `-5`: num(-5), `-9223372036854775808`: num(-1 << 63), `9223372036854775807`: num(1<<63 - 1),
		`"x"`: text("x"), `"\"\u0001é"`: text("\"\x01é"),
		`[]`: list(), `{}`: object(), `[[],[null,1]]`: list(list(), list(null, num(1))),
		`{"a":[null,-5],"b":"x"}`: object(api.Member{Key: "a", Value: list(null, num(-5))}, api.Member{Key: "b", Value: text("x")}),
		`{"":{},"\n":0}`:          object(api.Member{Key: "", Value: object()}, api.Member{Key: "\n", Value: num(0)}),
	} {
		if s, e := Text(v); s != want || e != api.OK {
			t.Errorf("%s: %s %v", want, s, e)
		}
		if n, e := Bytes(v); n != len(want) || e != api.OK {
			t.Errorf("%s: %d %v", want, n, e)
		}
		for most := -1; most < len(want)+2; most++ {
			e := api.OK
			if most < len(want) {
				e = api.ErrLong
			}
			if got := Short(v, most); got != e {
				t.Errorf("%s, %d: %v", want, most, got)
			}
		}
	}
}

func TestErrors(t *testing.T) {
	for i, x := range []struct {
		v api.Value
		e api.Errno
	}{
		{api.Value{}, api.ErrKind}, {list(text("\xff")), api.ErrUTF}, {nest(64, null), api.ErrDeep}, {object(api.Member{Key: "a", Value: null}, api.Member{Key: "a", Value: null}), api.ErrKey},
		{list(text(strings.Repeat("a", 2000)), api.Value{}), api.ErrKind},
	} {
		s, e := Text(x.v)
		n, f := Bytes(x.v)
		if s != "" || n != 0 || e != x.e || f != x.e || Short(x.v, 0) != x.e || Fits(x.v) != x.e {
			t.Errorf("%d: %q %d %v %v", i, s, n, e, f)
		}
	}
}

func TestFits(t *testing.T) {
	for i, x := range []struct {
		v api.Value
		e api.Errno
	}{
		{nest(15, null), api.OK}, {nest(16, null), api.ErrDeep}, {nest(15, list()), api.OK},
		{text(strings.Repeat("a", 1022)), api.OK}, {text(strings.Repeat("a", 1023)), api.ErrLong}, {text(strings.Repeat("\n", 512)), api.ErrLong}, {text(strings.Repeat("\n", 511)), api.OK},
		{list(text(strings.Repeat("a", 2000)), nest(16, null)), api.ErrDeep}, {nest(15, text(strings.Repeat("a", 2000))), api.ErrLong},
	} {
		if e := Fits(x.v); e != x.e {
			t.Errorf("%d: %v", i, e)
		}
	}
}

func randomValue(rnd *rand.Rand, deep int) api.Value {
	switch k := rnd.Intn(6); {
	case k == 0:
		return api.Value{Kind: api.Bool, Bool: rnd.Intn(2) == 0}
	case k == 1:
		return num(int64(rnd.Intn(30) - 15))
	case k == 2:
		return text([]string{"", "a", "\"", "1", "[]", "é"}[rnd.Intn(6)])
	case k == 3 && deep > 0:
		v := list()
		for range rnd.Intn(3) {
			v.List = append(v.List, randomValue(rnd, deep-1))
		}
		return v
	case k == 4 && deep > 0:
		v := object()
		for _, key := range []string{"", "a", "b,"}[:rnd.Intn(4)] {
			v.Object = append(v.Object, api.Member{Key: key, Value: randomValue(rnd, deep-1)})
		}
		return v
	}
	return null
}

// P3.2
func TestSameTextJustIfSame(t *testing.T) {
	rnd := rand.New(rand.NewSource(4))
	seen := map[string]api.Value{}
	for range 5000 {
		v := randomValue(rnd, 3)
		s, e := Text(v)
		if e != api.OK || !utf.Valid(s) || strings.IndexFunc(s, func(r rune) bool { return r < 0x20 }) >= 0 || !json.Valid([]byte(s)) {
			t.Fatalf("%q %v", s, e)
		}
		if w, ok := seen[s]; ok && !value.Same(v, w) {
			t.Fatalf("%q of two values", s)
		}
		seen[s] = v
	}
	for s, v := range seen {
		if again, _ := Text(value.Copy(v)); again != s {
			t.Fatalf("%q %q", s, again)
		}
	}
}

// P0.7
func TestDeepNesting(t *testing.T) {
	if _, e := Text(nest(1<<16-1, null)); e != api.ErrDeep {
		t.Error(e)
	}
}
