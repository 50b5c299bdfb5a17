package push

import (
	"bytes"
	"fmt"
	"math/rand"
	"reflect"
	"strings"
	"testing"

	"commonplace/api"
	"commonplace/crc"
	"commonplace/frame"
	"commonplace/mutator"
)

var del = api.Mutator{Kind: api.MutDel, Key: "a"}

func num(id uint64, m api.Mutator) api.Numbered { return api.Numbered{ID: id, Mutator: m} }

func framed(t *testing.T, body string) []byte {
	t.Helper()
	f, e := frame.Frame(api.FramePush, []byte(body))
	if e != api.OK {
		t.Fatal(e)
	}
	return f
}

// P17.1
func TestMay(t *testing.T) {
	var many []api.Numbered
	for range 65 {
		many = append(many, num(0, del))
	}
	for i, x := range []struct {
		r api.PushRequest
		e api.Errno
	}{
		{api.PushRequest{Client: 1}, api.OK}, {api.PushRequest{Client: api.MaxNumber, List: []api.Numbered{num(api.MaxNumber, del), num(1, del), num(1, del)}}, api.OK},
		{api.PushRequest{}, api.ErrArg}, {api.PushRequest{Client: api.MaxNumber + 1}, api.ErrArg}, {api.PushRequest{List: many}, api.ErrArg},
		{api.PushRequest{Client: 1, List: many}, api.ErrLong}, {api.PushRequest{Client: 1, List: many[:64]}, api.ErrArg},
		{api.PushRequest{Client: 1, List: []api.Numbered{num(api.MaxNumber+1, del)}}, api.ErrArg}, {api.PushRequest{Client: 1, List: []api.Numbered{num(0, api.Mutator{})}}, api.ErrArg},
		{api.PushRequest{Client: 1, List: []api.Numbered{num(1, api.Mutator{})}}, api.ErrKind}, {api.PushRequest{Client: 1, List: []api.Numbered{num(1, api.Mutator{Kind: api.MutDel}), num(0, del)}}, api.ErrKey},
	} {
		if e := May(x.r); e != x.e {
			t.Errorf("%d: %v", i, e)
		}
		f, e := Encode(x.r)
		if e != x.e || (e == api.OK) != (f != nil) {
			t.Errorf("%d: %v", i, e)
		}
	}
	for i := range many[:64] {
		many[i].ID = 1
	}
	if e := May(api.PushRequest{Client: 1, List: many[:64]}); e != api.OK {
		t.Error(e)
	}
}

// P17.2
func TestEncodeDecode(t *testing.T) {
	r := api.PushRequest{Client: 7, List: []api.Numbered{num(1, del)}}
	body := `{"client":7,"list":[{"id":1,"mutator":{"args":{"key":"a"},"name":"del"}}]}`
	f, e := Encode(r)
	if e != api.OK || !bytes.Equal(f, framed(t, body)) {
		t.Errorf("%s %v", f, e)
	}
	if got, e := Decode(f); e != api.OK || !reflect.DeepEqual(got, r) {
		t.Error(got, e)
	}
	if got, e := Decode(framed(t, `{"client":4611686018427387903,"list":[]}`)); e != api.OK || got.Client != api.MaxNumber || len(got.List) != 0 {
		t.Error(got, e)
	}
	m := `{"args":{"key":"a"},"name":"del"}`
	for body, want := range map[string]api.Errno{
		``: api.ErrSyntax, ` {"client":7,"list":[]}`: api.ErrSyntax, `{"list":[],"client":7}`: api.ErrSyntax, "{\"\xff\":1}": api.ErrUTF, `{"client":7,"client":7}`: api.ErrKey, `{"client":-0,"list":[]}`: api.ErrNum,
		`[]`: api.ErrKind, `{"client":7}`: api.ErrField, `{"list":[]}`: api.ErrField, `{}`: api.ErrField, `{"client":7,"list":[],"x":1}`: api.ErrField, `{"client":7,"lisu":[]}`: api.ErrField,
		`{"client":"7","list":1}`: api.ErrKind, `{"client":7,"list":{}}`: api.ErrKind, `{"client":0,"list":[]}`: api.ErrArg, `{"client":-1,"list":[]}`: api.ErrArg, `{"client":4611686018427387904,"list":[]}`: api.ErrArg,
		`{"client":0,"list":[1]}`: api.ErrKind, `{"client":7,"list":[{"id":1}]}`: api.ErrField, `{"client":7,"list":[{"id":1,"mutator":1,"x":1}]}`: api.ErrField, `{"client":7,"list":[{"id":"1","mutator":1}]}`: api.ErrKind, `{"client":7,"list":[{"id":1,"mutator":{"args":{},"name":"x"}}]}`: api.ErrNone,
		`{"client":7,"list":[{"id":0,"mutator":{"args":{"key":""},"name":"del"}}]}`: api.ErrKey, `{"client":7,"list":[{"id":0,"mutator":` + m + `}]}`: api.ErrArg, `{"client":7,"list":[{"id":-5,"mutator":` + m + `}]}`: api.ErrArg, `{"client":7,"list":[{"id":4611686018427387904,"mutator":` + m + `}]}`: api.ErrArg,
		`{"client":7,"list":[` + strings.Repeat(`{"id":1,"mutator":`+m+`},`, 64) + `{"id":1,"mutator":` + m + `}]}`: api.ErrLong, `{"client":7,"list":[` + strings.Repeat(`{"id":1,"mutator":`+m+`},`, 64) + `1]}`: api.ErrKind,
	} {
		if got, e := Decode(framed(t, body)); e != want || !reflect.DeepEqual(got, api.PushRequest{}) {
			t.Errorf("%.90s: %v, want %v", body, e, want)
		}
	}
	pull, _ := frame.Frame(api.FramePull, []byte(body))
	for i, x := range []struct {
		b []byte
		e api.Errno
	}{{nil, api.ErrSum}, {crc.Seal(nil), api.ErrSum}, {crc.Seal([]byte{0}), api.ErrArg}, {pull, api.ErrState}} {
		if _, e := Decode(x.b); e != x.e {
			t.Error(i, e)
		}
	}
}

func TestNewMemory(t *testing.T) {
	r := api.PushRequest{Client: 7, List: []api.Numbered{num(1, api.Mutator{Kind: api.MutPut, Key: "a", Value: api.Value{Kind: api.List, List: []api.Value{{Kind: api.Null}}}})}}
	f, _ := Encode(r)
	a, _ := Decode(f)
	a.List[0].Mutator.Value.List[0].Kind = api.Int
	if b, _ := Decode(f); b.List[0].Mutator.Value.List[0].Kind != api.Null {
		t.Error("memory is shared")
	}
}

// P17.3
func TestWhatFollows(t *testing.T) {
	rnd := rand.New(rand.NewSource(20))
	seen := map[string]bool{}
	for range 500 {
		r := api.PushRequest{Client: 1 + uint64(rnd.Intn(3))}
		for range rnd.Intn(4) {
			m := []api.Mutator{del, {Kind: api.MutInc, Key: "n", Int: int64(rnd.Intn(3))}, {Kind: api.MutCas, Key: "k", Has: true, Value: api.Value{Kind: api.Null}}, {Kind: api.MutSeq, Key: "g", List: []api.Mutator{del}}}[rnd.Intn(4)]
			r.List = append(r.List, num(1+uint64(rnd.Intn(3)), m))
		}
		f, e := Encode(r)
		got, g := Decode(f)
		if e != api.OK || g != api.OK || got.Client != r.Client || len(got.List) != len(r.List) {
			t.Fatal(e, g)
		}
		for i, n := range got.List {
			if n.ID != r.List[i].ID || !mutator.Same(n.Mutator, r.List[i].Mutator) {
				t.Fatal(n)
			}
		}
		if again, _ := Encode(got); !bytes.Equal(again, f) {
			t.Fatal("two frames")
		}
		s, _ := frame.Spoil(f, rnd.Intn(len(f)), byte(1+rnd.Intn(255)))
		if _, e := Decode(s); e != api.ErrSum {
			t.Fatal(e)
		}
		seen[fmt.Sprint(f)] = true
	}
	if len(seen) < 50 {
		t.Error("too few pushes")
	}
}
