package answer

import (
	"math/rand"
	"reflect"
	"testing"

	"commonplace/accept"
	"commonplace/api"
	"commonplace/frame"
	"commonplace/interp"
	"commonplace/patch"
	"commonplace/pull"
	"commonplace/push"
	"commonplace/tree"
)

func num(i int) api.Value { return api.Value{Kind: api.Int, Int: int64(i)} }

func put(k string) api.Mutator { return api.Mutator{Kind: api.MutPut, Key: k, Value: num(1)} }

func server(t *testing.T, keep int, client uint64, l ...api.Mutator) *accept.Server {
	t.Helper()
	s, e := accept.New(keep)
	if e != api.OK {
		t.Fatal(e)
	}
	for i, m := range l {
		f, e := push.Encode(api.PushRequest{Client: client, List: []api.Numbered{{ID: uint64(i + 1), Mutator: m}}})
		if e != api.OK {
			t.Fatal(e)
		}
		if _, e := s.Push(f); e != api.OK {
			t.Fatal(e)
		}
	}
	return s
}

var wipe = api.PatchOp{Kind: api.PatchClear}

func op(k string) api.PatchOp { return api.PatchOp{Kind: api.PatchPut, Key: k, Value: num(1)} }

// P22.1
func TestOfResets(t *testing.T) {
	s := server(t, 2, 7, put("a"), put("b"), put("c"))
	for _, x := range []struct {
		cookie uint64
		patch  []api.PatchOp
		resets bool
	}{{3, nil, false}, {2, []api.PatchOp{op("c")}, false}, {1, []api.PatchOp{wipe, op("a"), op("b"), op("c")}, true}, {0, []api.PatchOp{wipe, op("a"), op("b"), op("c")}, true}} {
		r := api.PullRequest{Client: 7, Cookie: x.cookie}
		got, e := Of(s, r)
		want := api.PullResponse{Client: 7, Base: x.cookie, Cookie: 3, Last: 3, Patch: x.patch}
		if e != api.OK || !reflect.DeepEqual(got, want) || Resets(s, r) != x.resets {
			t.Error(x.cookie, got, e)
		}
		if got, _ := Of(s, api.PullRequest{Client: 8, Cookie: x.cookie}); got.Last != 0 || got.Client != 8 {
			t.Error(got)
		}
	}
	for i, x := range []struct {
		s *accept.Server
		r api.PullRequest
		e api.Errno
	}{
		{s, api.PullRequest{Client: 7, Cookie: 4}, api.ErrBase}, {s, api.PullRequest{Client: 7, Cookie: api.MaxNumber}, api.ErrBase}, {s, api.PullRequest{Client: 7, Cookie: api.MaxNumber + 1}, api.ErrArg}, {s, api.PullRequest{Client: 0, Cookie: 4}, api.ErrArg}, {s, api.PullRequest{Client: api.MaxNumber + 1}, api.ErrArg},
		{nil, api.PullRequest{}, api.ErrNil}, {&accept.Server{}, api.PullRequest{Client: 7}, api.ErrNil},
	} {
		got, e := Of(x.s, x.r)
		if e != x.e || !reflect.DeepEqual(got, api.PullResponse{}) || Resets(x.s, x.r) {
			t.Error(i, e)
		}
	}
	fresh := server(t, 1, 7)
	if got, e := Of(fresh, api.PullRequest{Client: 7}); e != api.OK || len(got.Patch) != 0 || got.Cookie != 0 {
		t.Error(got, e)
	}
}

// P22.2
func TestPull(t *testing.T) {
	s := server(t, 2, 7, put("a"), put("b"), put("c"))
	f, _ := pull.EncodeRequest(api.PullRequest{Client: 7, Cookie: 2})
	before := s.Tree()
	g, e := Pull(s, f)
	got, e2 := pull.DecodeResponse(g)
	want, _ := Of(s, api.PullRequest{Client: 7, Cookie: 2})
	if e != api.OK || e2 != api.OK || !reflect.DeepEqual(got, want) || !s.Tree().Is(before) || s.Version() != 3 {
		t.Error(got, e, e2)
	}
	bad, _ := frame.Spoil(f, 1, 1)
	other, _ := frame.Frame(api.FrameAnswer, nil)
	late, _ := pull.EncodeRequest(api.PullRequest{Client: 7, Cookie: 4})
	zero, _ := frame.Frame(api.FramePull, []byte(`{"client":0,"cookie":9}`))
	for i, x := range []struct {
		s *accept.Server
		b []byte
		e api.Errno
	}{{s, bad, api.ErrSum}, {s, nil, api.ErrSum}, {s, other, api.ErrState}, {s, late, api.ErrBase}, {s, zero, api.ErrArg}, {nil, bad, api.ErrNil}, {&accept.Server{}, nil, api.ErrNil}} {
		if g, e := Pull(x.s, x.b); e != x.e || g != nil {
			t.Error(i, e)
		}
	}
}

// P22.3, P0.3
func TestWhatFollows(t *testing.T) {
	rnd := rand.New(rand.NewSource(25))
	for range 60 {
		keep := 1 + rnd.Intn(6)
		var l []api.Mutator
		maps := []tree.Tree{{}}
		for range rnd.Intn(25) {
			k := []string{"a", "b", "c", "d"}[rnd.Intn(4)]
			m := []api.Mutator{put(k), {Kind: api.MutDel, Key: k}, {Kind: api.MutInc, Key: k, Int: 1}}[rnd.Intn(3)]
			next, _ := interp.Run(maps[len(maps)-1], m)
			l, maps = append(l, m), append(maps, next)
		}
		s := server(t, keep, 7, l...)
		for cookie, base := range maps {
			r := api.PullRequest{Client: 7, Cookie: uint64(cookie)}
			got, e := Of(s, r)
			if e != api.OK || got.Cookie != uint64(len(l)) || got.Last != uint64(len(l)) || Resets(s, r) != (cookie < len(maps)-keep) {
				t.Fatal(got, e)
			}
			if a, e := patch.Apply(base, got.Patch...); e != api.OK || !a.Same(s.Tree()) {
				t.Fatal(cookie, e)
			}
			if cookie == len(l) && len(got.Patch) != 0 {
				t.Fatal(got.Patch)
			}
		}
	}
}
