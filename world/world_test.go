package world

import (
	"fmt"
	"math/rand"
	"reflect"
	"testing"

	"commonplace/api"
	"commonplace/interp"
	"commonplace/mutator"
	"commonplace/push"
	"commonplace/rebase"
	"commonplace/tree"
	"commonplace/value"
)

func num(i int) api.Value { return api.Value{Kind: api.Int, Int: int64(i)} }

func inc(k string, by int) api.Mutator {
	return api.Mutator{Kind: api.MutInc, Key: k, Int: int64(by)}
}
func del(k string) api.Mutator { return api.Mutator{Kind: api.MutDel, Key: k} }

func made(t *testing.T, clients, keep int) *World {
	t.Helper()
	w, e := New(clients, keep)
	if e != api.OK {
		t.Fatal(e)
	}
	return w
}

func mutate(who int, m api.Mutator) api.Act {
	return api.Act{Kind: api.ActMutate, Who: who, Mutator: m}
}
func act(k api.ActKind, who int) api.Act { return api.Act{Kind: k, Who: who} }
func pushes(who, n int) api.Act          { return api.Act{Kind: api.ActPush, Who: who, N: n} }
func deliver(at int) api.Act             { return api.Act{Kind: api.ActDeliver, At: at} }
func spoil(at, n int, mask byte) api.Act {
	return api.Act{Kind: api.ActSpoil, At: at, N: n, Mask: mask}
}
func watch(who int, q api.Query) api.Act       { return api.Act{Kind: api.ActSubscribe, Who: who, Query: q} }
func letters(kind api.ActKind, at int) api.Act { return api.Act{Kind: kind, At: at} }

func do(t *testing.T, w *World, a api.Act, want api.Told) {
	t.Helper()
	if got := w.Do(a); !reflect.DeepEqual(got, want) {
		t.Errorf("%v: %v, want %v", a.Kind, got, want)
	}
}

func shows(w *World, who int, k string) int64 {
	v, _ := w.View(who)
	for _, x := range v.Head {
		if x.Key == k {
			return x.Value.Int
		}
	}
	return -1
}

var ok = api.Told{}

// sync lets a client save, push, and pull, and all that come.
func sync(w *World, who int) {
	w.Do(act(api.ActSave, who))
	if w.Do(pushes(who, 64)).Code == api.OK {
		w.Do(deliver(w.Len() - 1))
	}
	w.Do(act(api.ActPull, who))
	w.Do(deliver(w.Len() - 1))
	w.Do(deliver(w.Len() - 1))
}

// P29.1
func TestNew(t *testing.T) {
	for _, x := range [][2]int{{0, 5}, {33, 5}, {-1, 5}, {1, 0}, {1, 1025}, {0, 0}} {
		if w, e := New(x[0], x[1]); w != nil || e != api.ErrArg {
			t.Error(x, e)
		}
	}
	w := made(t, 32, 1024)
	if w.Clients() != 32 || w.Len() != 0 || len(w.Letters()) != 0 {
		t.Error(w.Clients())
	}
	if v, e := w.View(32); e != api.OK || !reflect.DeepEqual(v, api.View{Image: api.Image{Client: 32, Next: 1}, Saved: 1}) {
		t.Error(v, e)
	}
	if s := w.Store(); s.Version != 0 || len(s.Map) != 0 || len(s.Ran) != 0 {
		t.Error(s)
	}
}

// Examples 1, 2, 3 and 8 of the whole.
func TestOneClient(t *testing.T) {
	w := made(t, 1, 5)
	do(t, w, pushes(1, 5), api.Told{Code: api.ErrNone})
	do(t, w, mutate(1, inc("n", 2)), api.Told{ID: 1})
	do(t, w, mutate(1, del("x")), api.Told{ID: 2, Code: api.ErrNone})
	do(t, w, mutate(1, del("")), api.Told{Code: api.ErrKey})
	do(t, w, pushes(1, 5), api.Told{Code: api.ErrNone})
	if shows(w, 1, "n") != 2 || len(w.Store().Map) != 0 {
		t.Error("its head has it at once")
	}
	do(t, w, act(api.ActSave, 1), ok)
	do(t, w, pushes(1, 0), api.Told{Code: api.ErrNone})
	do(t, w, pushes(1, 5), ok)
	do(t, w, letters(api.ActDouble, 0), ok)
	do(t, w, letters(api.ActDouble, 0), ok)
	do(t, w, spoil(0, 3, 0), api.Told{Code: api.ErrArg})
	do(t, w, spoil(0, 3000, 1), api.Told{Code: api.ErrRange})
	do(t, w, spoil(0, 3, 1), ok)
	do(t, w, spoil(0, 4, 1), api.Told{Code: api.ErrState})
	do(t, w, deliver(0), api.Told{Code: api.ErrSum})
	do(t, w, deliver(0), api.Told{Accepted: api.Accepted{Done: 1, Failed: 1}})
	do(t, w, deliver(0), api.Told{Accepted: api.Accepted{Old: 2}})
	do(t, w, deliver(0), api.Told{Code: api.ErrRange})
	if s := w.Store(); s.Version != 2 || len(s.Map) != 1 || s.Map[0].Value.Int != 2 || s.Ran[1].Code != api.ErrNone {
		t.Error(s)
	}
	do(t, w, act(api.ActPull, 1), ok)
	do(t, w, letters(api.ActDouble, 0), ok)
	do(t, w, deliver(0), ok)
	if l := w.Letters(); len(l) != 2 || l[0].To != 0 || l[1].To != 1 {
		t.Error(l)
	}
	do(t, w, letters(api.ActDouble, 1), ok)
	do(t, w, deliver(1), ok)
	do(t, w, deliver(1), api.Told{Code: api.ErrOld})
	v, _ := w.View(1)
	if v.Image.Cookie != 2 || v.Image.Last != 2 || len(v.Image.Pending) != 0 || shows(w, 1, "n") != 2 || len(v.Image.Base) != 1 {
		t.Error(v)
	}
	do(t, w, letters(api.ActDrop, 0), ok)
	do(t, w, letters(api.ActDrop, 0), api.Told{Code: api.ErrRange})
}

// Examples 4 and 5.
func TestTwoClients(t *testing.T) {
	w := made(t, 2, 5)
	do(t, w, mutate(1, inc("n", 2)), api.Told{ID: 1})
	do(t, w, mutate(2, inc("n", 3)), api.Told{ID: 1})
	if shows(w, 1, "n") != 2 || shows(w, 2, "n") != 3 {
		t.Error("each shows its own")
	}
	sync(w, 1)
	sync(w, 2)
	sync(w, 1)
	if shows(w, 1, "n") != 5 || shows(w, 2, "n") != 5 {
		t.Error("both show 5")
	}
	do(t, w, mutate(1, api.Mutator{Kind: api.MutCas, Key: "n", Had: true, Was: num(5)}), api.Told{ID: 2})
	do(t, w, mutate(2, inc("n", 1)), api.Told{ID: 2})
	if shows(w, 1, "n") != -1 {
		t.Error("it was done")
	}
	sync(w, 2)
	sync(w, 1)
	if shows(w, 1, "n") != 6 {
		t.Error("it was refused at the server")
	}
}

// Examples 6 and 7.
func TestGapsAndResets(t *testing.T) {
	w := made(t, 2, 2)
	w.Do(mutate(1, inc("a", 1)))
	w.Do(mutate(1, inc("a", 1)))
	w.Do(act(api.ActSave, 1))
	w.Do(pushes(1, 2))
	w.Do(mutate(1, inc("b", 1)))
	w.Do(mutate(1, inc("b", 1)))
	w.Do(act(api.ActSave, 1))
	w.Do(pushes(1, 9))
	do(t, w, letters(api.ActDrop, 0), ok)
	do(t, w, deliver(0), api.Told{Accepted: api.Accepted{Done: 4}})
	do(t, w, mutate(2, inc("b", 1)), api.Told{ID: 1})
	sync(w, 2)
	if v, _ := w.View(2); v.Image.Cookie != 5 || len(v.Image.Base) != 2 || shows(w, 2, "b") != 3 {
		t.Error("a reset leads to the newest map", v)
	}
	sync(w, 1)
	if shows(w, 1, "b") != 3 {
		t.Error(shows(w, 1, "b"))
	}
}

// Examples 9 and 10, P0.4, P0.6.
func TestCrashAndEvents(t *testing.T) {
	w := made(t, 2, 5)
	do(t, w, watch(1, api.Query{Kind: api.QueryPrefix, Lo: "a/"}), api.Told{ID: 1})
	do(t, w, watch(1, api.Query{}), api.Told{Code: api.ErrArg})
	do(t, w, watch(1, api.Query{Kind: api.QueryRange, Lo: "a", Open: true}), api.Told{ID: 2})
	event := func(id uint64, had, has int) api.Event {
		c := api.Change{Key: "a/1"}
		if had > 0 {
			c.Had, c.Was = true, num(had)
		}
		if has > 0 {
			c.Has, c.Is = true, num(has)
		}
		return api.Event{ID: id, Change: c}
	}
	do(t, w, mutate(1, inc("a/1", 1)), api.Told{ID: 1, Events: []api.Event{event(1, 0, 1), event(2, 0, 1)}})
	do(t, w, mutate(1, inc("a/1", 1)), api.Told{ID: 2, Events: []api.Event{event(1, 1, 2), event(2, 1, 2)}})
	do(t, w, act(api.ActSave, 1), ok)
	do(t, w, api.Act{Kind: api.ActCancel, Who: 1, N: 2}, ok)
	do(t, w, api.Act{Kind: api.ActCancel, Who: 1, N: 2}, api.Told{Code: api.ErrNone})
	do(t, w, api.Act{Kind: api.ActCancel, Who: 1, N: 0}, api.Told{Code: api.ErrNone})
	do(t, w, api.Act{Kind: api.ActCancel, Who: 1, N: -1}, api.Told{Code: api.ErrRange})
	do(t, w, mutate(1, inc("a/1", 1)), api.Told{ID: 3, Events: []api.Event{event(1, 2, 3)}})
	do(t, w, act(api.ActCrash, 1), api.Told{Events: []api.Event{event(1, 3, 2)}})
	if v, _ := w.View(1); len(v.Image.Pending) != 2 || v.Saved != 3 {
		t.Error(v)
	}
	do(t, w, mutate(1, del("a/1")), api.Told{ID: 3, Events: []api.Event{event(1, 2, 0)}})
	if l, e := w.Result(1, 1); e != api.OK || len(l) != 0 {
		t.Error(l, e)
	}
	do(t, w, mutate(2, inc("a/1", 7)), api.Told{ID: 1})
	sync(w, 2)
	w.Do(act(api.ActSave, 1))
	w.Do(act(api.ActPull, 1))
	w.Do(deliver(0))
	do(t, w, mutate(1, inc("a/1", 1)), api.Told{ID: 4, Events: []api.Event{event(1, 0, 1)}})
	w.Do(pushes(1, 9))
	do(t, w, deliver(1), api.Told{Accepted: api.Accepted{Done: 3}})
	do(t, w, deliver(0), ok)
	w.Do(act(api.ActPull, 1))
	w.Do(deliver(0))
	do(t, w, deliver(0), ok)
	if shows(w, 1, "a/1") != 1 {
		t.Error(shows(w, 1, "a/1"))
	}
}

func TestEventsOfWhatTheServerRefused(t *testing.T) {
	w := made(t, 2, 5)
	w.Do(watch(1, api.Query{Kind: api.QueryPrefix, Lo: "a/"}))
	w.Do(mutate(2, inc("a/1", 5)))
	sync(w, 2)
	cas := api.Mutator{Kind: api.MutCas, Key: "a/1", Has: true, Value: num(1)}
	do(t, w, mutate(1, cas), api.Told{ID: 1, Events: []api.Event{{ID: 1, Change: api.Change{Key: "a/1", Has: true, Is: num(1)}}}})
	w.Do(act(api.ActSave, 1))
	w.Do(pushes(1, 1))
	do(t, w, deliver(0), api.Told{Accepted: api.Accepted{Failed: 1}})
	w.Do(act(api.ActPull, 1))
	w.Do(deliver(0))
	do(t, w, deliver(0), api.Told{Events: []api.Event{{ID: 1, Change: api.Change{Key: "a/1", Had: true, Was: num(1), Has: true, Is: num(5)}}}})
}

func TestErrors(t *testing.T) {
	w := made(t, 2, 5)
	for _, k := range []api.ActKind{0, -1, 12} {
		do(t, w, api.Act{Kind: k, Who: 9, At: 9}, api.Told{Code: api.ErrArg})
	}
	for k := api.ActMutate; k <= api.ActCancel; k++ {
		for _, i := range []int{-1, 0, 3, 1 << 62} {
			a := api.Act{Kind: k, Who: i, At: i, N: -1}
			do(t, w, a, api.Told{Code: api.ErrRange})
		}
	}
	for _, w := range []*World{nil, {}} {
		do(t, w, api.Act{}, api.Told{Code: api.ErrNil})
		do(t, w, act(api.ActSave, 1), api.Told{Code: api.ErrNil})
		v, e := w.View(1)
		l, f := w.Result(1, 1)
		if w.Clients() != 0 || w.Len() != 0 || w.Letters() != nil || e != api.ErrNil || f != api.ErrNil || l != nil || !reflect.DeepEqual(v, api.View{}) || !reflect.DeepEqual(w.Store(), api.Store{}) {
			t.Error("of nil")
		}
	}
	for _, who := range []int{0, -1, 3} {
		v, e := w.View(who)
		l, f := w.Result(who, 1)
		if e != api.ErrRange || f != api.ErrRange || l != nil || !reflect.DeepEqual(v, api.View{}) {
			t.Error(who, e, f)
		}
	}
	if _, e := w.Result(1, 1); e != api.ErrNone {
		t.Error(e)
	}
}

// P29.2
func TestNewMemory(t *testing.T) {
	w := made(t, 1, 5)
	list := api.Value{Kind: api.List, List: []api.Value{num(1)}}
	w.Do(watch(1, api.Query{Kind: api.QueryPrefix}))
	told := w.Do(mutate(1, api.Mutator{Kind: api.MutPut, Key: "l", Value: list}))
	list.List[0] = num(2)
	told.Events[0].Change.Is.List[0] = num(2)
	w.Do(act(api.ActSave, 1))
	w.Do(pushes(1, 1))
	w.Letters()[0].Frame[0] = 99
	v, _ := w.View(1)
	v.Head[0].Value.List[0] = num(2)
	v.Image.Pending[0].Mutator.Value.List[0] = num(2)
	r, _ := w.Result(1, 1)
	r[0].Value.List[0] = num(2)
	do(t, w, deliver(0), api.Told{Accepted: api.Accepted{Done: 1}})
	s := w.Store()
	s.Map[0].Value.List[0] = num(2)
	s.Ran[0].Mutator.Value.List[0] = num(2)
	v, _ = w.View(1)
	r, _ = w.Result(1, 1)
	s = w.Store()
	for i, x := range []api.Value{v.Head[0].Value, v.Image.Pending[0].Mutator.Value, r[0].Value, s.Map[0].Value, s.Ran[0].Mutator.Value} {
		if x.List[0].Int != 1 {
			t.Error("memory is shared", i)
		}
	}
}

// history is what happened in a world, as it has to be.
type history struct {
	issued [][]api.Numbered
	saved  []int
	left   map[string]string // what left a client under a number
	shown  []map[uint64]map[string]api.Value
}

func begun(clients int) *history {
	h := &history{issued: make([][]api.Numbered, clients+1), saved: make([]int, clients+1), left: map[string]string{}}
	for range clients + 1 {
		h.shown = append(h.shown, map[uint64]map[string]api.Value{})
	}
	return h
}

// note follows an act; to is to whom the letter went that came, if one did.
func (h *history) note(t *testing.T, w *World, a api.Act, told api.Told, to int) {
	t.Helper()
	who := a.Who
	switch a.Kind {
	case api.ActMutate:
		if told.ID > 0 {
			h.issued[who] = append(h.issued[who], api.Numbered{ID: told.ID, Mutator: a.Mutator})
		}
	case api.ActSave:
		h.saved[who] = len(h.issued[who])
	case api.ActCrash:
		h.issued[who] = h.issued[who][:h.saved[who]:h.saved[who]]
	case api.ActPush:
		if told.Code == api.OK {
			l := w.Letters()
			r, e := push.Decode(l[len(l)-1].Frame)
			if e != api.OK {
				t.Fatal(e)
			}
			for _, n := range r.List {
				name, text := fmt.Sprint(who, " ", n.ID), fmt.Sprint(n.Mutator)
				if old, ok := h.left[name]; ok && old != text {
					t.Fatal("a number is given to another mutator", name)
				}
				h.left[name] = text
			}
		}
	case api.ActDeliver:
		who = to
	case api.ActSubscribe:
		if told.ID > 0 {
			m := map[string]api.Value{}
			l, _ := w.Result(who, told.ID)
			for _, x := range l {
				m[x.Key] = x.Value
			}
			h.shown[who][told.ID] = m
		}
	case api.ActCancel:
		if told.Code == api.OK {
			delete(h.shown[who], uint64(a.N))
		}
	}
	h.events(t, w, who, told.Events)
}

// events folds events over what subscriptions showed.
func (h *history) events(t *testing.T, w *World, who int, l []api.Event) {
	t.Helper()
	for i, e := range l {
		m := h.shown[who][e.ID]
		v, had := m[e.Change.Key]
		if m == nil || had != e.Change.Had || had && !value.Same(v, e.Change.Was) || e.Change.Had && e.Change.Has && value.Same(e.Change.Was, e.Change.Is) {
			t.Fatal("an event", e)
		}
		if i > 0 && (l[i-1].ID > e.ID || l[i-1].ID == e.ID && l[i-1].Change.Key >= e.Change.Key) {
			t.Fatal("not in order")
		}
		if e.Change.Has {
			m[e.Change.Key] = e.Change.Is
		} else {
			delete(m, e.Change.Key)
		}
	}
	for id, m := range h.shown[who] {
		l, e := w.Result(who, id)
		if e != api.OK || len(l) != len(m) {
			t.Fatal("a subscription shows something else", e)
		}
		for _, x := range l {
			if v, ok := m[x.Key]; !ok || !value.Same(v, x.Value) {
				t.Fatal("a subscription shows something else")
			}
		}
	}
}

// check holds a world against what happened.
func (h *history) check(t *testing.T, w *World) {
	t.Helper()
	s := w.Store()
	maps := []tree.Tree{{}}
	lasts := []map[uint64]uint64{{}}
	last := map[uint64]uint64{}
	for i, r := range s.Ran {
		next, code := interp.Run(maps[i], r.Mutator)
		if r.Version != uint64(i+1) || r.ID != last[r.Client]+1 || code != r.Code || !mutator.Same(r.Mutator, h.issued[r.Client][r.ID-1].Mutator) {
			t.Fatal("once, and in order", r)
		}
		last[r.Client]++
		now := map[uint64]uint64{}
		for c, id := range last {
			now[c] = id
		}
		maps, lasts = append(maps, next), append(lasts, now)
	}
	if s.Version != uint64(len(s.Ran)) || !maps[s.Version].Same(tree.Build(s.Map...)) {
		t.Fatal("the server's map")
	}
	for who := 1; who <= w.Clients(); who++ {
		v, _ := w.View(who)
		base := tree.Build(v.Image.Base...)
		if !maps[v.Image.Cookie].Same(base) || v.Image.Last != lasts[v.Image.Cookie][uint64(who)] {
			t.Fatal("the base is H of the cookie")
		}
		want := h.issued[who][v.Image.Last:]
		if len(want) != len(v.Image.Pending) {
			t.Fatal("what is pending", who, len(want), len(v.Image.Pending))
		}
		for i, n := range want {
			if n.ID != v.Image.Pending[i].ID || !mutator.Same(n.Mutator, v.Image.Pending[i].Mutator) {
				t.Fatal("what is pending")
			}
		}
		if !rebase.Head(base, want...).Same(tree.Build(v.Head...)) {
			t.Fatal("the head")
		}
	}
}

func randomAct(rnd *rand.Rand, w *World) api.Act {
	a := api.Act{Kind: api.ActKind(1 + rnd.Intn(11)), Who: 1 + rnd.Intn(w.Clients()), At: rnd.Intn(w.Len() + 1), N: 1 + rnd.Intn(4), Mask: byte(1 + rnd.Intn(255))}
	if rnd.Intn(3) == 0 {
		a.Kind = api.ActMutate
	} else if rnd.Intn(2) == 0 {
		a.Kind = api.ActDeliver
	}
	k := []string{"a", "b", "a/1", "b/2"}[rnd.Intn(4)]
	a.Mutator = []api.Mutator{inc(k, 1), inc(k, 2), del(k), {Kind: api.MutPut, Key: k, Value: num(rnd.Intn(5))}, {Kind: api.MutCas, Key: k, Had: true, Was: num(rnd.Intn(4)), Has: true, Value: num(9)}, {Kind: api.MutMove, Key: "a/", To: "b/"}, {Kind: api.MutAppend, Key: "l", Value: num(1)}, {Kind: api.MutSeq, List: []api.Mutator{inc(k, 1), del("b")}}}[rnd.Intn(8)]
	a.Query = []api.Query{{Kind: api.QueryPrefix, Lo: "a"}, {Kind: api.QueryRange, Lo: "a/", Hi: "c"}, {Kind: api.QueryRange, Lo: "b", Open: true}}[rnd.Intn(3)]
	return a
}

// P29.3, P0.1 to P0.4, P0.6
func TestWhatFollows(t *testing.T) {
	for seed := range 30 {
		rnd := rand.New(rand.NewSource(int64(seed)))
		clients := 1 + rnd.Intn(3)
		w, h := made(t, clients, 1+rnd.Intn(6)), begun(clients)
		for range 250 {
			a := randomAct(rnd, w)
			to, spoilt := 0, false
			if l := w.Letters(); a.At < len(l) {
				to, spoilt = int(l[a.At].To), l[a.At].Spoilt
			}
			before, n := snapshot(w), w.Len()
			told := w.Do(a)
			after := snapshot(w)
			if a.Kind == api.ActDeliver && spoilt && (told.Code != api.ErrSum || !reflect.DeepEqual(before, after) || w.Len() != n-1) {
				t.Fatal("a letter that is spoilt changes something", told)
			}
			for i, v := range after.views {
				old := before.views[i].Image
				if a.Kind != api.ActCrash && (v.Image.Cookie < old.Cookie || v.Image.Last < old.Last) {
					t.Fatal("it falls")
				}
			}
			h.note(t, w, a, told, to)
			h.check(t, w)
		}
	}
}

// seen is a world, as it can be seen.
type seen struct {
	store api.Store
	views []api.View
}

func snapshot(w *World) seen {
	s := seen{store: w.Store()}
	for who := 1; who <= w.Clients(); who++ {
		v, _ := w.View(who)
		s.views = append(s.views, v)
	}
	return s
}
