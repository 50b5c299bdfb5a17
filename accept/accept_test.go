package accept

import (
	"fmt"
	"math/rand"
	"reflect"
	"testing"

	"commonplace/api"
	"commonplace/crc"
	"commonplace/frame"
	"commonplace/interp"
	"commonplace/mutator"
	"commonplace/push"
	"commonplace/tree"
)

func num(i int) api.Value { return api.Value{Kind: api.Int, Int: int64(i)} }

func put(k string, i int) api.Mutator {
	return api.Mutator{Kind: api.MutPut, Key: k, Value: num(i)}
}
func inc(k string) api.Mutator { return api.Mutator{Kind: api.MutInc, Key: k, Int: 1} }
func del(k string) api.Mutator { return api.Mutator{Kind: api.MutDel, Key: k} }

func pushed(t *testing.T, client uint64, l ...api.Numbered) []byte {
	t.Helper()
	f, e := push.Encode(api.PushRequest{Client: client, List: l})
	if e != api.OK {
		t.Fatal(e)
	}
	return f
}

func n(id uint64, m api.Mutator) api.Numbered { return api.Numbered{ID: id, Mutator: m} }

func server(t *testing.T, keep int) *Server {
	t.Helper()
	s, e := New(keep)
	if e != api.OK {
		t.Fatal(e)
	}
	return s
}

// P21.1
func TestNewPush(t *testing.T) {
	for _, keep := range []int{0, -1, 1025} {
		if s, e := New(keep); s != nil || e != api.ErrArg {
			t.Error(keep, e)
		}
	}
	s := server(t, 1024)
	if _, ok := s.At(0); !ok || s.Version() != 0 || s.Tree().Len() != 0 || s.Oldest() != 0 {
		t.Error("a new one")
	}
	f := pushed(t, 7, n(1, put("a", 1)), n(2, put("b", 2)), n(4, put("d", 4)), n(3, put("c", 3)))
	if a, e := s.Push(f); e != api.OK || a != (api.Accepted{Done: 2, Gap: true}) || s.Version() != 2 {
		t.Error(a, e, s.Version())
	}
	if a, e := s.Push(f); e != api.OK || a != (api.Accepted{Old: 2, Gap: true}) || s.Version() != 2 {
		t.Error(a, e)
	}
	if a, e := s.Push(pushed(t, 7, n(2, put("z", 9)), n(3, del("none")), n(3, put("z", 9)), n(4, inc("a")))); e != api.OK || a != (api.Accepted{Old: 2, Failed: 1, Done: 1}) || s.Version() != 4 {
		t.Error(a, e)
	}
	if a, e := s.Push(pushed(t, 8)); e != api.OK || a != (api.Accepted{}) || s.Version() != 4 {
		t.Error(a, e)
	}
	if a, e := s.Push(pushed(t, 8, n(2, inc("a")))); e != api.OK || a != (api.Accepted{Gap: true}) || s.Version() != 4 {
		t.Error(a, e)
	}
	if v, _ := s.Tree().Get("a"); v.Int != 2 || s.Tree().Len() != 2 {
		t.Error(s.Tree().Entries())
	}
	good := pushed(t, 8, n(1, inc("a")))
	bad, _ := frame.Spoil(good, 3, 1)
	other, _ := frame.Frame(api.FramePull, []byte("{}"))
	text, _ := frame.Frame(api.FramePush, []byte("{"))
	for i, x := range []struct {
		b []byte
		e api.Errno
	}{{bad, api.ErrSum}, {nil, api.ErrSum}, {crc.Seal([]byte{0}), api.ErrArg}, {other, api.ErrState}, {text, api.ErrSyntax}} {
		if a, e := s.Push(x.b); e != x.e || a != (api.Accepted{}) || s.Version() != 4 {
			t.Error(i, a, e)
		}
	}
}

// P21.2
func TestLooks(t *testing.T) {
	s := server(t, 2)
	s.Push(pushed(t, 7, n(1, put("a", 1)), n(2, put("a", 2))))
	s.Push(pushed(t, 8, n(1, put("b", 1)), n(2, del("none"))))
	if s.Version() != 4 || s.Oldest() != 3 {
		t.Error(s.Version(), s.Oldest())
	}
	for _, version := range []uint64{0, 2, 5, 1 << 63} {
		if a, ok := s.At(version); ok || a.Root() != nil {
			t.Error(version)
		}
	}
	three, ok3 := s.At(3)
	four, ok4 := s.At(4)
	if !ok3 || !ok4 || !three.Is(four) || !four.Is(s.Tree()) || three.Len() != 2 {
		t.Error("At")
	}
	for _, x := range []struct {
		client, version, id uint64
		ok                  bool
	}{{7, 4, 2, true}, {7, 3, 2, true}, {8, 3, 1, true}, {8, 4, 2, true}, {8, 5, 2, true}, {8, 1 << 63, 2, true}, {8, 2, 0, false}, {7, 0, 0, false}, {9, 4, 0, true}, {9, 1, 0, false}, {0, 4, 0, true}} {
		if id, ok := s.Last(x.client, x.version); id != x.id || ok != x.ok {
			t.Error(x, id, ok)
		}
	}
	one := server(t, 1)
	one.Push(pushed(t, 7, n(1, inc("a")), n(2, inc("a"))))
	if a, ok := one.At(2); !ok || a.Len() != 1 || one.Oldest() != 2 {
		t.Error("a server that keeps one")
	}
	for _, s := range []*Server{nil, {}} {
		_, ok1 := s.At(0)
		last, ok2 := s.Last(1, 0)
		a, e := s.Push(nil)
		if e != api.ErrNil || a != (api.Accepted{}) || s.Version() != 0 || s.Tree().Root() != nil || ok1 || ok2 || last != 0 || s.Oldest() != 0 || s.Executed() != nil || s.Copy() != nil {
			t.Error("of nil")
		}
	}
}

// P21.3
func TestExecutedCopy(t *testing.T) {
	s := server(t, 2)
	s.Push(pushed(t, 7, n(1, put("a", 1)), n(2, del("none"))))
	want := []api.Ran{{Version: 1, Client: 7, ID: 1, Mutator: put("a", 1)}, {Version: 2, Client: 7, ID: 2, Mutator: del("none"), Code: api.ErrNone}}
	l := s.Executed()
	if !reflect.DeepEqual(l, want) {
		t.Error(l)
	}
	l[0].Mutator.Key = "z"
	c := s.Copy()
	c.Push(pushed(t, 8, n(1, put("c", 1)), n(2, put("c", 2))))
	s.Push(pushed(t, 9, n(1, put("s", 1))))
	if len(s.Executed()) != 3 || len(c.Executed()) != 4 || s.Executed()[0].Mutator.Key != "a" || c.Executed()[2].Client != 8 || s.Executed()[2].Client != 9 || s.Version() != 3 || c.Version() != 4 {
		t.Error("not apart")
	}
	if _, ok := s.Tree().Get("c"); ok {
		t.Error("not apart")
	}
	if id, _ := s.Last(8, 3); id != 0 {
		t.Error("not apart")
	}
	list := server(t, 1)
	list.Push(pushed(t, 1, n(1, api.Mutator{Kind: api.MutPut, Key: "l", Value: api.Value{Kind: api.List, List: []api.Value{num(1)}}})))
	list.Executed()[0].Mutator.Value.List[0] = num(2)
	if list.Executed()[0].Mutator.Value.List[0].Int != 1 {
		t.Error("memory is shared")
	}
}

// P21.4, P0.2
func TestWhatFollows(t *testing.T) {
	rnd := rand.New(rand.NewSource(24))
	for range 40 {
		keep := 1 + rnd.Intn(5)
		s := server(t, keep)
		issued := map[uint64][]api.Numbered{}
		var frames [][]byte
		for range 60 {
			client := 1 + uint64(rnd.Intn(3))
			if rnd.Intn(2) == 0 {
				m := []api.Mutator{put("a", rnd.Intn(3)), inc("a"), inc("b"), del("a"), del("b"), {Kind: api.MutMove, Key: "a", To: "b"}}[rnd.Intn(6)]
				issued[client] = append(issued[client], n(uint64(len(issued[client])+1), m))
			}
			if l := issued[client]; len(l) > 0 {
				from := rnd.Intn(len(l))
				frames = append(frames, pushed(t, client, l[from:from+rnd.Intn(len(l)-from+1)]...))
			}
			if len(frames) == 0 {
				continue
			}
			f := frames[rnd.Intn(len(frames))]
			before := s.Version()
			a, e := s.Push(f)
			if e != api.OK || s.Version() != before+uint64(a.Done+a.Failed) {
				t.Fatal(a, e)
			}
			root := s.Tree()
			if b, e := s.Push(f); e != api.OK || b.Done+b.Failed != 0 || b.Old != a.Old+a.Done+a.Failed || b.Gap != a.Gap || !s.Tree().Is(root) {
				t.Fatal("once more", a, b)
			}
		}
		var now tree.Tree
		maps := []tree.Tree{now}
		last := map[uint64]uint64{}
		for i, r := range s.Executed() {
			next, code := interp.Run(now, r.Mutator)
			if r.Version != uint64(i+1) || r.ID != last[r.Client]+1 || code != r.Code || !mutator.Same(r.Mutator, issued[r.Client][r.ID-1].Mutator) {
				t.Fatal(r)
			}
			last[r.Client], now = r.ID, next
			maps = append(maps, now)
		}
		if !now.Same(s.Tree()) || s.Version() != uint64(len(maps)-1) {
			t.Fatal("not what all comes to")
		}
		for v, m := range maps {
			a, ok := s.At(uint64(v))
			if ok != (v > len(maps)-1-keep) || ok && !a.Same(m) {
				t.Fatal(v, ok, fmt.Sprint(a.Entries()))
			}
		}
	}
}
