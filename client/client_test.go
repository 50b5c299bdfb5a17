package client

import (
	"math/rand"
	"reflect"
	"strings"
	"testing"

	"commonplace/api"
	"commonplace/crc"
	"commonplace/frame"
	"commonplace/pull"
	"commonplace/push"
	"commonplace/rebase"
	"commonplace/tree"
)

func num(i int) api.Value { return api.Value{Kind: api.Int, Int: int64(i)} }

func inc(k string) api.Mutator { return api.Mutator{Kind: api.MutInc, Key: k, Int: 1} }
func del(k string) api.Mutator { return api.Mutator{Kind: api.MutDel, Key: k} }

func put(k string, i int) api.PatchOp {
	return api.PatchOp{Kind: api.PatchPut, Key: k, Value: num(i)}
}

func made(t *testing.T, id uint64) *Client {
	t.Helper()
	c, e := New(id)
	if e != api.OK {
		t.Fatal(e)
	}
	return c
}

func got(c *Client, k string) int64 {
	v, _ := c.Head().Get(k)
	return v.Int
}

// P25.1
func TestNew(t *testing.T) {
	for _, id := range []uint64{0, api.MaxNumber + 1, 1<<64 - 1} {
		if c, e := New(id); c != nil || e != api.ErrArg {
			t.Error(id, e)
		}
	}
	c := made(t, api.MaxNumber)
	if i := c.Image(); !reflect.DeepEqual(i, api.Image{Client: api.MaxNumber, Next: 1}) || c.Saved() != 1 || c.Head().Len() != 0 {
		t.Error(i)
	}
}

func image() api.Image {
	return api.Image{Client: 7, Cookie: 5, Last: 2, Next: 5,
		Base:    []api.Entry{{Key: "l", Value: api.Value{Kind: api.List, List: []api.Value{num(1)}}}, {Key: "n", Value: num(3)}},
		Pending: []api.Numbered{{ID: 3, Mutator: inc("n")}, {ID: 4, Mutator: del("x")}}}
}

func TestFromImage(t *testing.T) {
	i := image()
	c, e := From(i)
	if e != api.OK || !reflect.DeepEqual(c.Image(), image()) || c.Saved() != 5 || got(c, "n") != 4 {
		t.Fatal(e)
	}
	i.Base[0].Value.List[0] = num(9)
	i.Pending[0].Mutator.Key = "z"
	j := c.Image()
	j.Base[0].Value.List[0] = num(9)
	j.Pending[0].Mutator.Key = "z"
	if !reflect.DeepEqual(c.Image(), image()) {
		t.Error("memory is shared")
	}
	const max = api.MaxNumber
	for n, x := range []struct {
		change func(i *api.Image)
		e      api.Errno
	}{
		{func(i *api.Image) { i.Client = 0 }, api.ErrArg}, {func(i *api.Image) { i.Client = max + 1 }, api.ErrArg}, {func(i *api.Image) { i.Cookie = max + 1 }, api.ErrArg}, {func(i *api.Image) { i.Last = max + 1 }, api.ErrArg}, {func(i *api.Image) { i.Next = 0 }, api.ErrArg}, {func(i *api.Image) { i.Next = max + 2; i.Base[0].Key = "" }, api.ErrArg},
		{func(i *api.Image) { i.Base[0].Key = "" }, api.ErrKey}, {func(i *api.Image) { i.Base[0].Key = "n" }, api.ErrKey}, {func(i *api.Image) { i.Base[0].Key = "o"; i.Base[1].Value = api.Value{} }, api.ErrKey}, {func(i *api.Image) { i.Base[1].Key = strings.Repeat("x", 65) }, api.ErrKey}, {func(i *api.Image) { i.Base[0].Value = api.Value{}; i.Base[1].Key = "" }, api.ErrKind},
		{func(i *api.Image) {
			i.Base[1].Value = api.Value{Kind: api.Text, Text: strings.Repeat("x", 1023)}
			i.Next = 9
		}, api.ErrLong},
		{func(i *api.Image) { i.Next = 6 }, api.ErrGap}, {func(i *api.Image) { i.Next = 4 }, api.ErrGap}, {func(i *api.Image) { i.Next = 1; i.Pending = nil }, api.ErrGap}, {func(i *api.Image) { i.Last = 1; i.Pending[0].Mutator = api.Mutator{} }, api.ErrGap}, {func(i *api.Image) { i.Pending[0], i.Pending[1] = i.Pending[1], i.Pending[0] }, api.ErrGap}, {func(i *api.Image) { i.Pending = nil }, api.ErrGap},
		{func(i *api.Image) { i.Pending[0].Mutator.Key = ""; i.Pending[1].Mutator = api.Mutator{} }, api.ErrKey}, {func(i *api.Image) { i.Pending[1].Mutator = api.Mutator{} }, api.ErrKind},
	} {
		i := image()
		x.change(&i)
		if c, e := From(i); c != nil || e != x.e {
			t.Errorf("%d: %v, want %v", n, e, x.e)
		}
	}
	if c, e := From(api.Image{Client: max, Cookie: max, Last: max, Next: max + 1}); e != api.OK {
		t.Error(e)
	} else if id, e := c.Mutate(inc("n")); id != 0 || e != api.ErrNum || c.Head().Len() != 0 {
		t.Error("beyond the greatest number", id, e)
	} else if _, e := c.Mutate(api.Mutator{}); e != api.ErrKind {
		t.Error(e)
	}
}

// P25.2
func TestMutate(t *testing.T) {
	c := made(t, 7)
	if id, e := c.Mutate(inc("n")); id != 1 || e != api.OK || got(c, "n") != 1 {
		t.Error(id, e)
	}
	if id, e := c.Mutate(del("x")); id != 2 || e != api.ErrNone || len(c.Image().Pending) != 2 {
		t.Error("it is pending all the same", id, e)
	}
	if id, e := c.Mutate(del("")); id != 0 || e != api.ErrKey || len(c.Image().Pending) != 2 || c.Image().Next != 3 {
		t.Error(id, e)
	}
	m := api.Mutator{Kind: api.MutPut, Key: "l", Value: api.Value{Kind: api.List, List: []api.Value{num(1)}}}
	c.Mutate(m)
	m.Value.List[0] = num(2)
	if v, _ := c.Head().Get("l"); v.List[0].Int != 1 || c.Image().Pending[2].Mutator.Value.List[0].Int != 1 {
		t.Error("what was handed in is kept")
	}
}

// P25.3, P25.5
func TestPushRequestKeep(t *testing.T) {
	c := made(t, 7)
	c.Mutate(inc("n"))
	if f, ok := c.Push(5); ok || f != nil {
		t.Error("what is not saved is pushed")
	}
	c.Keep()
	c.Mutate(inc("n"))
	if c.Saved() != 2 {
		t.Error(c.Saved())
	}
	f, ok := c.Push(5)
	if r, e := push.Decode(f); !ok || e != api.OK || !reflect.DeepEqual(r, api.PushRequest{Client: 7, List: []api.Numbered{{ID: 1, Mutator: inc("n")}}}) {
		t.Error(r, e)
	}
	for range 70 {
		c.Mutate(inc("n"))
	}
	c.Keep()
	before := c.Image()
	for batch, want := range map[int]int{-1: 0, 0: 0, 1: 1, 5: 5, 64: 64, 65: 64, 1 << 62: 64, -1 << 62: 0} {
		f, ok := c.Push(batch)
		if ok != (want > 0) || !ok && f != nil {
			t.Error(batch, ok)
		}
		if r, e := push.Decode(f); ok && (e != api.OK || len(r.List) != want || r.List[0].ID != 1) {
			t.Error(batch, e)
		}
	}
	f, ok = c.Request()
	if r, e := pull.DecodeRequest(f); !ok || e != api.OK || r != (api.PullRequest{Client: 7}) {
		t.Error(r, e)
	}
	if !reflect.DeepEqual(c.Image(), before) {
		t.Error("asking changes something")
	}
	d, _ := From(image())
	f, _ = d.Request()
	if r, _ := pull.DecodeRequest(f); r != (api.PullRequest{Client: 7, Cookie: 5}) {
		t.Error(r)
	}
}

// P25.4
func TestTakeAccept(t *testing.T) {
	c := made(t, 7)
	c.Mutate(inc("n"))
	c.Keep()
	if e := c.Accept(api.PullResponse{Client: 7, Cookie: 3, Last: 1, Patch: []api.PatchOp{put("n", 5)}}); e != api.OK || got(c, "n") != 5 || len(c.Image().Pending) != 0 {
		t.Error(e, c.Image())
	}
	c, _ = From(image())
	c.Mutate(inc("n"))
	before := c.Image()
	good := api.PullResponse{Client: 7, Base: 5, Cookie: 6, Last: 3, Patch: []api.PatchOp{put("n", 8)}}
	for i, x := range []struct {
		change func(r *api.PullResponse)
		e      api.Errno
	}{
		{func(r *api.PullResponse) { r.Cookie = api.MaxNumber + 1; r.Client = 8 }, api.ErrArg}, {func(r *api.PullResponse) { r.Client = 8; r.Cookie = 5 }, api.ErrState}, {func(r *api.PullResponse) { r.Cookie = 5; r.Base = 4 }, api.ErrOld}, {func(r *api.PullResponse) { r.Cookie = 0 }, api.ErrOld},
		{func(r *api.PullResponse) { r.Base = 4; r.Last = 9 }, api.ErrBase}, {func(r *api.PullResponse) { r.Base = 6 }, api.ErrBase}, {func(r *api.PullResponse) { r.Last = 1 }, api.ErrRange}, {func(r *api.PullResponse) { r.Last = 6; r.Patch[0].Key = "" }, api.ErrRange}, {func(r *api.PullResponse) { r.Last = 1<<64 - 1 }, api.ErrRange},
		{func(r *api.PullResponse) { r.Patch[0].Key = "" }, api.ErrKey}, {func(r *api.PullResponse) { r.Patch[0].Kind = 0 }, api.ErrArg}, {func(r *api.PullResponse) { r.Patch[0].Value = api.Value{} }, api.ErrKind},
	} {
		r := good
		r.Patch = append([]api.PatchOp{}, good.Patch...)
		x.change(&r)
		if e := c.Accept(r); e != x.e || !reflect.DeepEqual(c.Image(), before) || got(c, "n") != 5 {
			t.Errorf("%d: %v", i, e)
		}
	}
	f, _ := pull.EncodeResponse(good)
	bad, _ := frame.Spoil(f, 4, 9)
	other, _ := c.Request()
	none, _ := frame.Frame(api.FrameAnswer, []byte(`{"base":5,"client":7,"cookie":6,"last":3,"patch":[{}]}`))
	for i, x := range []struct {
		b []byte
		e api.Errno
	}{{bad, api.ErrSum}, {nil, api.ErrSum}, {crc.Seal([]byte{0}), api.ErrArg}, {other, api.ErrState}, {none, api.ErrField}} {
		if e := c.Take(x.b); e != x.e || !reflect.DeepEqual(c.Image(), before) {
			t.Error(i, e)
		}
	}
	if e := c.Take(f); e != api.OK || got(c, "n") != 9 || c.Saved() != 5 {
		t.Error(e, got(c, "n"))
	}
	if i := c.Image(); i.Cookie != 6 || i.Last != 3 || i.Next != 6 || len(i.Pending) != 2 || i.Pending[0].ID != 4 || i.Base[1].Value.Int != 8 {
		t.Error(i)
	}
	if e := c.Take(f); e != api.ErrOld {
		t.Error(e)
	}
	if e := c.Copy().Accept(api.PullResponse{Client: 7, Base: 6, Cookie: api.MaxNumber, Last: 3}); e != api.OK {
		t.Error("the same last number, the greatest cookie", e)
	}
	if e := c.Accept(api.PullResponse{Client: 7, Base: 6, Cookie: 9, Last: 5, Patch: []api.PatchOp{{Kind: api.PatchClear}}}); e != api.OK || c.Head().Len() != 0 || c.Image().Next != 6 {
		t.Error(e)
	}
}

// P25.5
func TestCopyNilZero(t *testing.T) {
	c, _ := From(image())
	d := c.Copy()
	c.Mutate(inc("n"))
	d.Mutate(del("n"))
	d.Keep()
	if got(c, "n") != 5 || got(d, "n") != 0 || c.Saved() != 5 || d.Saved() != 6 || c.Image().Pending[2].Mutator.Kind != api.MutInc || d.Image().Pending[2].Mutator.Kind != api.MutDel {
		t.Error("not apart")
	}
	for _, c := range []*Client{nil, {}} {
		c.Keep()
		id, e := c.Mutate(api.Mutator{})
		f, ok1 := c.Push(1)
		g, ok2 := c.Request()
		if id != 0 || e != api.ErrNil || f != nil || g != nil || ok1 || ok2 || c.Take(nil) != api.ErrNil || c.Accept(api.PullResponse{Cookie: 1 << 63}) != api.ErrNil || c.Head().Root() != nil || !reflect.DeepEqual(c.Image(), api.Image{}) || c.Saved() != 0 || c.Copy() != nil {
			t.Error("of nil")
		}
	}
}

// P25.6
func TestWhatFollows(t *testing.T) {
	rnd := rand.New(rand.NewSource(28))
	for range 100 {
		c := made(t, 7)
		for range 40 {
			before := c.Image()
			k := []string{"a", "b"}[rnd.Intn(2)]
			switch rnd.Intn(4) {
			case 0, 1:
				c.Mutate([]api.Mutator{inc(k), del(k)}[rnd.Intn(2)])
			case 2:
				c.Keep()
			case 3:
				r := api.PullResponse{Client: 7, Base: uint64(max(0, int(before.Cookie)-rnd.Intn(2))), Cookie: before.Cookie + uint64(rnd.Intn(3)), Last: before.Last + uint64(rnd.Intn(3)), Patch: []api.PatchOp{put(k, rnd.Intn(5))}}
				c.Accept(r)
			}
			i := c.Image()
			if i.Cookie < before.Cookie || i.Last < before.Last || i.Next < before.Next || i.Next != i.Last+uint64(len(i.Pending))+1 {
				t.Fatal(i)
			}
			for n, p := range i.Pending {
				if p.ID != i.Last+uint64(n)+1 {
					t.Fatal(i)
				}
			}
			if !c.Head().Same(rebase.Head(tree.Build(i.Base...), i.Pending...)) {
				t.Fatal("the head")
			}
			d, e := From(i)
			if e != api.OK || !reflect.DeepEqual(d.Image(), i) || !d.Head().Same(c.Head()) {
				t.Fatal(e)
			}
		}
	}
}
