package save

import (
	"bytes"
	"math/rand"
	"reflect"
	"testing"

	"commonplace/api"
	"commonplace/client"
	"commonplace/crc"
	"commonplace/frame"
)

func num(i int) api.Value { return api.Value{Kind: api.Int, Int: int64(i)} }

func inc(k string) api.Mutator { return api.Mutator{Kind: api.MutInc, Key: k, Int: 1} }

func image() api.Image {
	return api.Image{Client: 7, Cookie: 5, Last: 2, Next: 4, Base: []api.Entry{{Key: "l", Value: api.Value{Kind: api.List, List: []api.Value{num(1)}}}, {Key: "n", Value: num(3)}}, Pending: []api.Numbered{{ID: 3, Mutator: inc("n")}}}
}

func framed(t *testing.T, body string) []byte {
	t.Helper()
	f, e := frame.Frame(api.FrameImage, []byte(body))
	if e != api.OK {
		t.Fatal(e)
	}
	return f
}

const body = `{"base":{"l":[1],"n":3},"client":7,"cookie":5,"last":2,"next":4,"pending":[{"id":3,"mutator":{"args":{"by":1,"key":"n"},"name":"inc"}}]}`

// P26.1
func TestEncodeDecode(t *testing.T) {
	f, e := Encode(image())
	if e != api.OK || !bytes.Equal(f, framed(t, body)) {
		t.Errorf("%s %v", f, e)
	}
	if i, e := Decode(f); e != api.OK || !reflect.DeepEqual(i, image()) {
		t.Error(i, e)
	}
	for n, x := range []struct {
		change func(i *api.Image)
		e      api.Errno
	}{{func(i *api.Image) { i.Client = 0 }, api.ErrArg}, {func(i *api.Image) { i.Base[0].Key = "z" }, api.ErrKey}, {func(i *api.Image) { i.Base[0].Value = api.Value{} }, api.ErrKind}, {func(i *api.Image) { i.Next = 5 }, api.ErrGap}, {func(i *api.Image) { i.Pending[0].Mutator.Key = "" }, api.ErrKey}} {
		i := image()
		x.change(&i)
		if f, e := Encode(i); e != x.e || f != nil {
			t.Error(n, e)
		}
	}
}

func TestDecodeErrors(t *testing.T) {
	const tail = `,"client":7,"cookie":5,"last":2,"next":3,"pending":[]}`
	pending := func(s string) string {
		return `{"base":{},"client":0,"cookie":5,"last":2,"next":4,"pending":[` + s + `]}`
	}
	for body, want := range map[string]api.Errno{
		``: api.ErrSyntax, ` {}`: api.ErrSyntax, `{"a":1,"a":1}`: api.ErrKey, "\"\xff\"": api.ErrUTF, `[]`: api.ErrKind, `{}`: api.ErrField, `{"base":{}}`: api.ErrField, `{"base":{},"client":7,"cookie":5,"last":2,"next":3,"pendinh":[]}`: api.ErrField, `{"base":{},"client":7,"cookie":5,"last":2,"next":3,"pending":[],"z":1}`: api.ErrField,
		`{"base":{"":1},"client":"7","cookie":5,"last":2,"next":3,"pending":1}`: api.ErrKind, `{"base":{"":1},"client":7,"cookie":5,"last":2,"next":null,"pending":1}`: api.ErrKind,
		`{"base":[]` + tail: api.ErrKind, `{"base":{"":1}` + tail: api.ErrKey, `{"base":{"":1},"client":7,"cookie":5,"last":2,"next":3,"pending":1}`: api.ErrKey, `{"base":{},"client":0,"cookie":5,"last":2,"next":3,"pending":{}}`: api.ErrKind,
		pending(`1`): api.ErrKind, pending(`{}`): api.ErrField, pending(`{"id":3,"mutator":1,"x":1}`): api.ErrField, pending(`{"id":"3","mutator":1}`): api.ErrKind, pending(`{"id":3,"mutator":{"args":{},"name":"x"}}`): api.ErrNone, pending(`{"id":3,"mutator":{"args":{"key":""},"name":"del"}}`): api.ErrKey, pending(`{"id":9,"mutator":{"args":{"key":"a"},"name":"del"}}`): api.ErrArg,
		`{"base":{},"client":-7,"cookie":5,"last":2,"next":3,"pending":[]}`: api.ErrArg, `{"base":{},"client":7,"cookie":-5,"last":2,"next":3,"pending":[]}`: api.ErrArg, `{"base":{},"client":7,"cookie":5,"last":2,"next":-3,"pending":[]}`: api.ErrArg, `{"base":{},"client":7,"cookie":5,"last":2,"next":0,"pending":[]}`: api.ErrArg, `{"base":{},"client":7,"cookie":5,"last":2,"next":4,"pending":[]}`: api.ErrGap, `{"base":{},"client":7,"cookie":5,"last":4611686018427387904,"next":4,"pending":[]}`: api.ErrArg,
		`{"base":{},"client":7,"cookie":5,"last":2,"next":4,"pending":[{"id":-3,"mutator":{"args":{"key":"a"},"name":"del"}}]}`: api.ErrGap,
	} {
		i, e := Decode(framed(t, body))
		c, f := Load(framed(t, body))
		if e != want || f != want || !reflect.DeepEqual(i, api.Image{}) || c != nil {
			t.Errorf("%s: %v %v, want %v", body, e, f, want)
		}
	}
	other, _ := frame.Frame(api.FramePush, []byte(body))
	for i, x := range []struct {
		b []byte
		e api.Errno
	}{{nil, api.ErrSum}, {crc.Seal(nil), api.ErrSum}, {crc.Seal([]byte{0}), api.ErrArg}, {other, api.ErrState}} {
		if _, e := Decode(x.b); e != x.e {
			t.Error(i, e)
		}
	}
}

// P26.2
func TestSaveLoad(t *testing.T) {
	c, _ := client.New(7)
	f, e := Save(c)
	if e != api.OK || !bytes.Equal(f, framed(t, `{"base":{},"client":7,"cookie":0,"last":0,"next":1,"pending":[]}`)) {
		t.Errorf("%s %v", f, e)
	}
	c.Mutate(inc("n"))
	if c.Saved() != 1 {
		t.Error(c.Saved())
	}
	f, _ = Save(c)
	if c.Saved() != 2 {
		t.Error("not saved", c.Saved())
	}
	d, e := Load(f)
	if e != api.OK || d.Saved() != 2 || !reflect.DeepEqual(d.Image(), c.Image()) || !d.Head().Same(c.Head()) {
		t.Error(e)
	}
	for _, c := range []*client.Client{nil, {}} {
		if f, e := Save(c); e != api.ErrNil || f != nil {
			t.Error(e)
		}
	}
}

// P26.3
func TestWhatFollows(t *testing.T) {
	rnd := rand.New(rand.NewSource(29))
	for range 200 {
		c, _ := client.New(1 + uint64(rnd.Intn(3)))
		for range rnd.Intn(10) {
			switch k := []string{"a", "b", "é"}[rnd.Intn(3)]; rnd.Intn(3) {
			case 0:
				i := c.Image()
				c.Accept(api.PullResponse{Client: i.Client, Base: i.Cookie, Cookie: i.Cookie + 1, Last: i.Last + uint64(rnd.Intn(2)), Patch: []api.PatchOp{{Kind: api.PatchPut, Key: k, Value: num(rnd.Intn(9))}}})
			default:
				c.Mutate(inc(k))
			}
		}
		before := c.Image()
		f, e := Save(c)
		d, e2 := Load(f)
		if e != api.OK || e2 != api.OK || !reflect.DeepEqual(d.Image(), before) || !d.Head().Same(c.Head()) || d.Saved() != before.Next {
			t.Fatal(e, e2)
		}
		i, _ := Decode(f)
		if again, _ := Encode(i); !bytes.Equal(again, f) {
			t.Fatal("two frames")
		}
		s, _ := frame.Spoil(f, rnd.Intn(len(f)), byte(1+rnd.Intn(255)))
		if _, e := Decode(s); e != api.ErrSum {
			t.Fatal(e)
		}
		if _, e := Load(s); e != api.ErrSum {
			t.Fatal(e)
		}
	}
}
