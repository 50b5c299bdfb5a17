package pull

import (
	"bytes"
	"math/rand"
	"reflect"
	"testing"

	"commonplace/api"
	"commonplace/crc"
	"commonplace/frame"
)

func framedText(t *testing.T, kind byte, body string) []byte {
	t.Helper()
	f, e := frame.Frame(kind, []byte(body))
	if e != api.OK {
		t.Fatal(e)
	}
	return f
}

var delA = api.PatchOp{Kind: api.PatchDel, Key: "a"}

const beyondAll = api.MaxNumber + 1

// P18.1
func TestMay(t *testing.T) {
	for i, x := range []struct {
		r api.PullRequest
		e api.Errno
	}{{api.PullRequest{Client: 1}, api.OK}, {api.PullRequest{Client: api.MaxNumber, Cookie: api.MaxNumber}, api.OK}, {api.PullRequest{}, api.ErrArg}, {api.PullRequest{Client: beyondAll}, api.ErrArg}, {api.PullRequest{Client: 1, Cookie: beyondAll}, api.ErrArg}} {
		f, e := EncodeRequest(x.r)
		if MayRequest(x.r) != x.e || e != x.e || (e == api.OK) != (f != nil) {
			t.Error(i, e)
		}
	}
	for i, x := range []struct {
		r api.PullResponse
		e api.Errno
	}{
		{api.PullResponse{Client: 1}, api.OK}, {api.PullResponse{Client: api.MaxNumber, Base: api.MaxNumber, Cookie: api.MaxNumber, Last: api.MaxNumber, Patch: []api.PatchOp{delA}}, api.OK}, {api.PullResponse{Client: 1, Base: 5, Cookie: 3}, api.OK},
		{api.PullResponse{}, api.ErrArg}, {api.PullResponse{Client: beyondAll}, api.ErrArg}, {api.PullResponse{Client: 1, Base: beyondAll}, api.ErrArg}, {api.PullResponse{Client: 1, Cookie: beyondAll}, api.ErrArg}, {api.PullResponse{Client: 1, Last: beyondAll, Patch: []api.PatchOp{{Kind: api.PatchDel}}}, api.ErrArg},
		{api.PullResponse{Client: 1, Patch: []api.PatchOp{{Kind: api.PatchDel}}}, api.ErrKey}, {api.PullResponse{Client: 1, Patch: []api.PatchOp{{}}}, api.ErrArg}, {api.PullResponse{Client: 1, Patch: []api.PatchOp{{Kind: api.PatchPut, Key: "a"}}}, api.ErrKind},
	} {
		f, e := EncodeResponse(x.r)
		if MayResponse(x.r) != x.e || e != x.e || (e == api.OK) != (f != nil) {
			t.Error(i, e)
		}
	}
}

// P18.2
func TestRequest(t *testing.T) {
	r := api.PullRequest{Client: 7, Cookie: 3}
	f, e := EncodeRequest(r)
	if e != api.OK || !bytes.Equal(f, framedText(t, api.FramePull, `{"client":7,"cookie":3}`)) {
		t.Error(f, e)
	}
	if got, e := DecodeRequest(f); e != api.OK || got != r {
		t.Error(got, e)
	}
	for body, want := range map[string]api.Errno{
		``: api.ErrSyntax, `{"cookie":3,"client":7}`: api.ErrSyntax, `{"client": 7,"cookie":3}`: api.ErrSyntax, "\"\xff\"": api.ErrUTF, `[]`: api.ErrKind, `{}`: api.ErrField, `{"client":7}`: api.ErrField, `{"cookie":3}`: api.ErrField, `{"a":1,"client":7,"cookie":3}`: api.ErrField, `{"client":7,"last":3}`: api.ErrField,
		`{"client":"7","cookie":3}`: api.ErrKind, `{"client":7,"cookie":null}`: api.ErrKind, `{"client":0,"cookie":3}`: api.ErrArg, `{"client":0,"cookie":"3"}`: api.ErrKind, `{"client":-7,"cookie":3}`: api.ErrArg, `{"client":7,"cookie":-1}`: api.ErrArg, `{"client":7,"cookie":4611686018427387904}`: api.ErrArg,
	} {
		if got, e := DecodeRequest(framedText(t, api.FramePull, body)); e != want || got != (api.PullRequest{}) {
			t.Errorf("%s: %v", body, e)
		}
	}
	for i, x := range []struct {
		b []byte
		e api.Errno
	}{{nil, api.ErrSum}, {crc.Seal(nil), api.ErrSum}, {crc.Seal([]byte{0}), api.ErrArg}, {framedText(t, api.FrameAnswer, `{"client":7,"cookie":3}`), api.ErrState}} {
		if _, e := DecodeRequest(x.b); e != x.e {
			t.Error(i, e)
		}
	}
}

// P18.3
func TestResponse(t *testing.T) {
	r := api.PullResponse{Client: 7, Base: 3, Cookie: 5, Last: 2, Patch: []api.PatchOp{delA}}
	body := `{"base":3,"client":7,"cookie":5,"last":2,"patch":[{"key":"a","op":"del"}]}`
	f, e := EncodeResponse(r)
	if e != api.OK || !bytes.Equal(f, framedText(t, api.FrameAnswer, body)) {
		t.Error(f, e)
	}
	if got, e := DecodeResponse(f); e != api.OK || !reflect.DeepEqual(got, r) {
		t.Error(got, e)
	}
	if got, e := DecodeResponse(framedText(t, api.FrameAnswer, `{"base":0,"client":1,"cookie":0,"last":0,"patch":[]}`)); e != api.OK || got.Client != 1 || len(got.Patch) != 0 {
		t.Error(got, e)
	}
	for body, want := range map[string]api.Errno{
		``: api.ErrSyntax, `1`: api.ErrKind, `{"client":7,"cookie":3}`: api.ErrField, `{"base":3,"client":7,"cookie":5,"last":2}`: api.ErrField, `{"base":3,"client":7,"cookie":5,"last":2,"patch":[],"z":1}`: api.ErrField, `{"base":3,"client":7,"cookie":5,"lasu":2,"patch":[]}`: api.ErrField,
		`{"base":[],"client":7,"cookie":5,"last":2,"patch":{}}`: api.ErrKind, `{"base":3,"client":0,"cookie":5,"last":"","patch":[{"key":"","op":"del"}]}`: api.ErrKind, `{"base":3,"client":7,"cookie":5,"last":2,"patch":{}}`: api.ErrKind, `{"base":3,"client":0,"cookie":5,"last":2,"patch":[{"op":"x"}]}`: api.ErrNone, `{"base":3,"client":0,"cookie":5,"last":2,"patch":[{"key":"","op":"del"}]}`: api.ErrKey, `{"base":3,"client":0,"cookie":5,"last":2,"patch":[{}]}`: api.ErrField,
		`{"base":3,"client":0,"cookie":5,"last":2,"patch":[]}`: api.ErrArg, `{"base":-1,"client":7,"cookie":5,"last":2,"patch":[]}`: api.ErrArg, `{"base":3,"client":7,"cookie":5,"last":4611686018427387904,"patch":[]}`: api.ErrArg,
	} {
		if got, e := DecodeResponse(framedText(t, api.FrameAnswer, body)); e != want || !reflect.DeepEqual(got, api.PullResponse{}) {
			t.Errorf("%s: %v", body, e)
		}
	}
	if _, e := DecodeResponse(framedText(t, api.FramePull, body)); e != api.ErrState {
		t.Error(e)
	}
}

// P18.4
func TestWhatFollows(t *testing.T) {
	rnd := rand.New(rand.NewSource(21))
	for range 500 {
		q := api.PullRequest{Client: 1 + uint64(rnd.Int63n(api.MaxNumber)), Cookie: uint64(rnd.Int63n(api.MaxNumber))}
		r := api.PullResponse{Client: q.Client, Base: uint64(rnd.Intn(9)), Cookie: q.Cookie, Last: uint64(rnd.Intn(9))}
		if rnd.Intn(2) == 0 {
			r.Patch = append(r.Patch, api.PatchOp{Kind: api.PatchClear})
		}
		for _, k := range []string{"a", "b", "é"}[:rnd.Intn(4)] {
			r.Patch = append(r.Patch, api.PatchOp{Kind: api.PatchPut, Key: k, Value: api.Value{Kind: api.Int, Int: rnd.Int63()}})
		}
		f, e := EncodeRequest(q)
		g, h := EncodeResponse(r)
		q2, e2 := DecodeRequest(f)
		r2, h2 := DecodeResponse(g)
		if e != api.OK || h != api.OK || e2 != api.OK || h2 != api.OK || q2 != q || !reflect.DeepEqual(r2, r) && len(r.Patch) > 0 {
			t.Fatal(e, h, e2, h2)
		}
		if _, e := DecodeResponse(f); e != api.ErrState {
			t.Fatal(e)
		}
		if _, e := DecodeRequest(g); e != api.ErrState {
			t.Fatal(e)
		}
		for _, b := range [][]byte{f, g} {
			s, _ := frame.Spoil(b, rnd.Intn(len(b)), byte(1+rnd.Intn(255)))
			_, e := DecodeRequest(s)
			_, h := DecodeResponse(s)
			if e != api.ErrSum || h != api.ErrSum {
				t.Fatal(e, h)
			}
		}
		if again, _ := EncodeResponse(r2); !bytes.Equal(again, g) {
			t.Fatal("two frames")
		}
	}
}
