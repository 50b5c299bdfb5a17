package oracle

import (
	"math/rand"
	"reflect"
	"testing"

	"commonplace/api"
	"commonplace/world"
)

func num(i int) api.Value { return api.Value{Kind: api.Int, Int: int64(i)} }

func inc(k string) api.Mutator { return api.Mutator{Kind: api.MutInc, Key: k, Int: 1} }
func del(k string) api.Mutator { return api.Mutator{Kind: api.MutDel, Key: k} }

func ran(version, client, id uint64, m api.Mutator, code api.Errno) api.Ran {
	return api.Ran{Version: version, Client: client, ID: id, Mutator: m, Code: code}
}

func entry(k string, i int) api.Entry { return api.Entry{Key: k, Value: num(i)} }

// right is a log that is right.
func right() []api.Ran {
	return []api.Ran{ran(1, 7, 1, inc("n"), api.OK), ran(2, 7, 2, del("m"), api.ErrNone), ran(3, 8, 1, inc("n"), api.OK), ran(4, 7, 3, inc("a"), api.OK)}
}

// P30.1
func TestHLast(t *testing.T) {
	l := right()
	for version, want := range map[uint64][]api.Entry{0: nil, 1: {entry("n", 1)}, 2: {entry("n", 1)}, 3: {entry("n", 2)}, 4: {entry("a", 1), entry("n", 2)}} {
		got, e := H(l, version)
		if e != api.OK || len(got) != len(want) || len(want) > 0 && !reflect.DeepEqual(got, want) {
			t.Error(version, got, e)
		}
	}
	for _, version := range []uint64{5, 1<<64 - 1} {
		if got, e := H(l, version); e != api.ErrRange || got != nil {
			t.Error(version, e)
		}
	}
	for _, x := range []struct{ client, version, want uint64 }{{7, 2, 2}, {7, 0, 0}, {7, 3, 2}, {7, 4, 3}, {7, 1<<64 - 1, 3}, {8, 2, 0}, {8, 3, 1}, {9, 9, 0}} {
		if got := Last(l, x.client, x.version); got != x.want {
			t.Error(x, got)
		}
	}
	if Last(nil, 7, 3) != 0 {
		t.Error("of none")
	}
}

// P30.2
func TestLog(t *testing.T) {
	if i, e := Log(right()); i != 0 || e != api.OK {
		t.Error(i, e)
	}
	if i, e := Log(nil); i != 0 || e != api.OK {
		t.Error(i, e)
	}
	if i, e := Log([]api.Ran{ran(1, 7, 1, inc("n"), api.OK), ran(2, 7, 2, del("m"), api.OK)}); i != 1 || e != api.ErrState {
		t.Error(i, e)
	}
	for i, x := range []struct {
		change func(l []api.Ran)
		place  int
		e      api.Errno
	}{
		{func(l []api.Ran) { l[0].Version = 0; l[0].Client = 0 }, 0, api.ErrBase}, {func(l []api.Ran) { l[2].Version = 4; l[3].Client = 0 }, 2, api.ErrBase}, {func(l []api.Ran) { l[1].Client = 0; l[1].ID = 0 }, 1, api.ErrArg}, {func(l []api.Ran) { l[1].ID = 1; l[1].Code = 0 }, 1, api.ErrOld}, {func(l []api.Ran) { l[2].ID = 0 }, 2, api.ErrOld},
		{func(l []api.Ran) { l[3].ID = 4; l[3].Code = 9 }, 3, api.ErrGap}, {func(l []api.Ran) { l[2].ID = 2 }, 2, api.ErrGap}, {func(l []api.Ran) { l[3].Code = api.ErrNone }, 3, api.ErrState}, {func(l []api.Ran) { l[0].Mutator = del("n") }, 0, api.ErrState}, {func(l []api.Ran) { l[1].Mutator = api.Mutator{} }, 1, api.ErrState},
	} {
		l := right()
		x.change(l)
		if place, e := Log(l); place != x.place || e != x.e {
			t.Error(i, place, e)
		}
		if e := Store(api.Store{Version: 4, Map: []api.Entry{entry("a", 1), entry("n", 2)}, Ran: l}); e != x.e {
			t.Error(i, e)
		}
	}
}

func TestStore(t *testing.T) {
	s := func(version uint64, m ...api.Entry) api.Store {
		return api.Store{Version: version, Map: m, Ran: right()}
	}
	for i, x := range []struct {
		s api.Store
		e api.Errno
	}{
		{s(4, entry("a", 1), entry("n", 2)), api.OK}, {api.Store{}, api.OK}, {s(3, entry("n", 2)), api.ErrRange}, {s(5, entry("a", 1), entry("n", 2)), api.ErrRange},
		{s(4, entry("a", 1), entry("n", 3)), api.ErrKey}, {s(4, entry("n", 2), entry("a", 1)), api.ErrKey}, {s(4, entry("n", 2)), api.ErrKey}, {s(4, entry("a", 1), entry("b", 2)), api.ErrKey}, {s(4), api.ErrKey},
	} {
		if e := Store(x.s); e != x.e {
			t.Error(i, e)
		}
	}
	bad := s(4)
	bad.Ran[0].Version = 9
	if e := Store(bad); e != api.ErrBase {
		t.Error(e)
	}
}

func issued() []api.Numbered {
	return []api.Numbered{{ID: 1, Mutator: inc("n")}, {ID: 2, Mutator: del("m")}, {ID: 3, Mutator: inc("a")}, {ID: 4, Mutator: del("n")}}
}

func view() api.View {
	return api.View{Image: api.Image{Client: 7, Cookie: 3, Last: 2, Next: 5, Base: []api.Entry{entry("n", 2)}, Pending: issued()[2:]}, Head: []api.Entry{entry("a", 1)}}
}

func TestClient(t *testing.T) {
	if e := Client(right(), issued(), view()); e != api.OK {
		t.Error(e)
	}
	if e := Client(nil, nil, api.View{Image: api.Image{Next: 1}}); e != api.OK {
		t.Error(e)
	}
	for i, x := range []struct {
		change func(v *api.View)
		e      api.Errno
	}{
		{func(v *api.View) { v.Image.Cookie = 5; v.Image.Base = nil }, api.ErrRange}, {func(v *api.View) { v.Image.Cookie = 1<<64 - 1 }, api.ErrRange}, {func(v *api.View) { v.Image.Cookie = 4 }, api.ErrBase}, {func(v *api.View) { v.Image.Base[0].Value = num(1); v.Image.Last = 9 }, api.ErrBase}, {func(v *api.View) { v.Image.Base = nil }, api.ErrBase},
		{func(v *api.View) { v.Image.Last = 1; v.Image.Pending = nil }, api.ErrOld}, {func(v *api.View) { v.Image.Client = 8 }, api.ErrOld}, {func(v *api.View) { v.Image.Pending = v.Image.Pending[1:]; v.Image.Next = 0 }, api.ErrGap}, {func(v *api.View) { v.Image.Pending = issued()[1:] }, api.ErrGap}, {func(v *api.View) { v.Image.Pending[0].Mutator = inc("b") }, api.ErrGap}, {func(v *api.View) { v.Image.Pending[0].ID = 9 }, api.ErrGap},
		{func(v *api.View) { v.Image.Next = 6; v.Head = nil }, api.ErrNum}, {func(v *api.View) { v.Image.Next = 3 }, api.ErrNum}, {func(v *api.View) { v.Head = nil }, api.ErrState}, {func(v *api.View) { v.Head = append(v.Head, entry("n", 2)) }, api.ErrState}, {func(v *api.View) { v.Head[0].Value = num(7) }, api.ErrState},
		{func(v *api.View) { v.Saved = 77 }, api.OK},
	} {
		v := view()
		x.change(&v)
		if e := Client(right(), issued(), v); e != x.e {
			t.Error(i, e)
		}
	}
	done := view()
	done.Image.Pending, done.Image.Next, done.Head = nil, 3, done.Image.Base
	if e := Client(right(), issued()[:2], done); e != api.OK {
		t.Error(e)
	}
	done.Image.Next = 4
	if e := Client(right(), issued()[:2], done); e != api.ErrNum {
		t.Error(e)
	}
}

// P30.3
func TestSettled(t *testing.T) {
	s := api.Store{Map: []api.Entry{entry("n", 2)}}
	good := api.View{Head: []api.Entry{entry("n", 2)}}
	pending := good
	pending.Image.Pending = issued()[:1]
	if !Settled(s, nil) || !Settled(s, []api.View{good, good}) || Settled(s, []api.View{good, pending}) || Settled(s, []api.View{{}, good}) || Settled(api.Store{}, []api.View{good}) || Settled(s, []api.View{{Head: []api.Entry{entry("n", 3)}}}) {
		t.Error("Settled")
	}
}

func mutate(who int, m api.Mutator) api.Act {
	return api.Act{Kind: api.ActMutate, Who: who, Mutator: m}
}

// P30.4
func TestNewNoteIssued(t *testing.T) {
	for _, n := range []int{0, -1, 33} {
		if o, e := New(n); o != nil || e != api.ErrArg {
			t.Error(n, e)
		}
	}
	if o, e := New(32); o == nil || e != api.OK {
		t.Error(e)
	}
	o, e := New(2)
	if e != api.OK || len(o.Issued(1)) != 0 {
		t.Error(e)
	}
	list := api.Mutator{Kind: api.MutPut, Key: "l", Value: api.Value{Kind: api.List, List: []api.Value{num(1)}}}
	o.Note(mutate(1, list), api.Told{ID: 1})
	list.Value.List[0] = num(2)
	o.Issued(1)[0].Mutator.Value.List[0] = num(3)
	if l := o.Issued(1); len(l) != 1 || l[0].ID != 1 || l[0].Mutator.Value.List[0].Int != 1 {
		t.Error("memory is shared", l)
	}
	o.Note(api.Act{Kind: api.ActSave, Who: 1}, api.Told{Code: api.ErrState})
	o.Note(mutate(1, inc("n")), api.Told{ID: 2, Code: api.ErrNone})
	o.Note(mutate(1, inc("x")), api.Told{Code: api.ErrKey})
	o.Note(api.Act{Kind: api.ActSubscribe, Who: 1}, api.Told{ID: 9})
	o.Note(mutate(2, inc("m")), api.Told{ID: 1})
	o.Note(mutate(3, inc("m")), api.Told{ID: 1})
	o.Note(mutate(0, inc("m")), api.Told{ID: 1})
	if len(o.Issued(1)) != 2 || len(o.Issued(2)) != 1 || o.Issued(3) != nil || o.Issued(0) != nil || o.Issued(-1) != nil {
		t.Error(o)
	}
	o.Note(api.Act{Kind: api.ActCrash, Who: 1}, api.Told{Code: api.ErrArg})
	o.Note(api.Act{Kind: api.ActCrash, Who: 2}, api.Told{})
	if len(o.Issued(1)) != 1 || len(o.Issued(2)) != 0 {
		t.Error("what was not saved is not issued")
	}
	o.Note(mutate(1, inc("k")), api.Told{ID: 2})
	if l := o.Issued(1); len(l) != 2 || l[1].Mutator.Key != "k" {
		t.Error(l)
	}
	var none *Oracle
	none.Note(mutate(1, inc("n")), api.Told{ID: 1})
	if i, e := none.Judge(api.Store{Version: 9}, nil); i != 0 || e != api.ErrNil || none.Issued(1) != nil {
		t.Error("of nil", e)
	}
	var zero Oracle
	zero.Note(mutate(1, inc("n")), api.Told{ID: 1})
	if i, e := zero.Judge(api.Store{}, nil); i != 0 || e != api.OK || zero.Issued(1) != nil {
		t.Error("a zero one", e)
	}
}

func TestJudge(t *testing.T) {
	o, _ := New(2)
	o.Note(mutate(1, inc("n")), api.Told{ID: 1})
	s := api.Store{}
	one := api.View{Image: api.Image{Client: 1, Next: 2, Pending: []api.Numbered{{ID: 1, Mutator: inc("n")}}}, Head: []api.Entry{entry("n", 1)}}
	two := api.View{Image: api.Image{Client: 2, Next: 1}}
	wrong := one
	wrong.Head = nil
	for i, x := range []struct {
		s     api.Store
		l     []api.View
		place int
		e     api.Errno
	}{
		{s, []api.View{one, two}, 0, api.OK}, {api.Store{Version: 1}, nil, 0, api.ErrRange}, {api.Store{Map: []api.Entry{entry("n", 1)}}, []api.View{two}, 0, api.ErrKey},
		{s, []api.View{two, two}, 1, api.ErrArg}, {s, []api.View{one, one}, 2, api.ErrArg}, {s, []api.View{wrong, one}, 1, api.ErrState}, {s, []api.View{one, {Image: api.Image{Client: 2, Next: 7}}}, 2, api.ErrNum},
		{s, []api.View{one}, 0, api.ErrRange}, {s, nil, 0, api.ErrRange}, {s, []api.View{one, two, {Image: api.Image{Client: 3, Next: 1}}}, 0, api.ErrRange}, {s, []api.View{one, two, {Image: api.Image{Client: 3, Next: 2}}}, 3, api.ErrNum},
	} {
		if place, e := o.Judge(x.s, x.l); place != x.place || e != x.e {
			t.Error(i, place, e)
		}
	}
}

func randomAct(rnd *rand.Rand, w *world.World) api.Act {
	a := api.Act{Kind: api.ActKind(1 + rnd.Intn(11)), Who: rnd.Intn(w.Clients() + 2), At: rnd.Intn(w.Len() + 1), N: 1 + rnd.Intn(4), Mask: byte(rnd.Intn(256))}
	if rnd.Intn(3) == 0 {
		a.Kind = api.ActMutate
	} else if rnd.Intn(2) == 0 {
		a.Kind = api.ActDeliver
	}
	k := []string{"a", "b", "", "b/2"}[rnd.Intn(4)]
	a.Mutator = []api.Mutator{inc(k), del(k), {Kind: api.MutPut, Key: k, Value: num(rnd.Intn(5))}, {Kind: api.MutMove, Key: "a", To: "b"}}[rnd.Intn(4)]
	return a
}

// P30.5
func TestWhatFollows(t *testing.T) {
	for seed := range 20 {
		rnd := rand.New(rand.NewSource(int64(seed)))
		clients := 1 + rnd.Intn(3)
		w, _ := world.New(clients, 1+rnd.Intn(5))
		o, _ := New(clients)
		for range 200 {
			a := randomAct(rnd, w)
			o.Note(a, w.Do(a))
			var l []api.View
			for who := 1; who <= clients; who++ {
				v, _ := w.View(who)
				l = append(l, v)
			}
			if who, e := o.Judge(w.Store(), l); who != 0 || e != api.OK {
				t.Fatal(seed, who, e)
			}
		}
	}
}
