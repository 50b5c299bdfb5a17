package settle

import (
	"math/rand"
	"reflect"
	"testing"

	"commonplace/api"
	"commonplace/world"
)

func num(i int) api.Value { return api.Value{Kind: api.Int, Int: int64(i)} }

func inc(k string) api.Mutator { return api.Mutator{Kind: api.MutInc, Key: k, Int: 1} }

func mutate(w *world.World, who int, m api.Mutator) {
	w.Do(api.Act{Kind: api.ActMutate, Who: who, Mutator: m})
}

func made(t *testing.T, clients, keep int) *world.World {
	t.Helper()
	w, e := world.New(clients, keep)
	if e != api.OK {
		t.Fatal(e)
	}
	return w
}

// all is a world, as it can be seen.
type all struct {
	store   api.Store
	views   []api.View
	letters []api.Letter
}

func snapshot(w *world.World) all {
	return all{w.Store(), views(w), w.Letters()}
}

// P31.1
func TestRoundsSettled(t *testing.T) {
	w := made(t, 2, 5)
	if !Settled(w) {
		t.Error("a new world")
	}
	for range 5 {
		mutate(w, 2, inc("n"))
	}
	mutate(w, 1, inc("n"))
	before := snapshot(w)
	for batch, want := range map[int]int{1: 6, 2: 4, 3: 3, 4: 3, 5: 2, 6: 2, 64: 2} {
		if n, e := Rounds(w, batch); n != want || e != api.OK {
			t.Error(batch, n, e)
		}
	}
	if Settled(w) || !reflect.DeepEqual(snapshot(w), before) {
		t.Error("Settled")
	}
	for _, batch := range []int{0, -1, 65} {
		n, e := Rounds(w, batch)
		m, f := Run(w, batch)
		if n != 0 || m != 0 || e != api.ErrArg || f != api.ErrArg || Round(w, batch) != api.ErrArg || !reflect.DeepEqual(snapshot(w), before) {
			t.Error(batch, e, f)
		}
	}
	for _, w := range []*world.World{nil, {}} {
		n, e := Rounds(w, 0)
		m, f := Run(w, 0)
		if n != 0 || m != 0 || e != api.ErrNil || f != api.ErrNil || Round(w, 0) != api.ErrNil || Settled(w) {
			t.Error("of nil", e, f)
		}
	}
}

// P31.2
func TestRoundRun(t *testing.T) {
	w := made(t, 2, 5)
	for range 5 {
		mutate(w, 1, inc("n"))
	}
	mutate(w, 2, inc("n"))
	w.Do(api.Act{Kind: api.ActPull, Who: 2})
	if e := Round(w, 2); e != api.OK {
		t.Error(e)
	}
	l := views(w)
	if s := w.Store(); s.Version != 3 || s.Ran[0].Client != 1 || s.Ran[2].Client != 2 || len(l[0].Image.Pending) != 3 || l[0].Image.Cookie != 2 || l[1].Image.Cookie != 3 || l[0].Saved != 6 || w.Len() != 1 || len(w.Letters()) != 1 {
		t.Error(s, l)
	}
	if n, e := Run(w, 2); n != 3 || e != api.OK || !Settled(w) || w.Store().Version != 6 || w.Len() != 1 {
		t.Error(n, e)
	}
	v := made(t, 2, 5)
	for range 5 {
		mutate(v, 1, inc("n"))
	}
	if n, e := Run(v, 2); n != 4 || e != api.OK || !Settled(v) {
		t.Error(n, e)
	}
	if n, e := Run(v, 2); n != 1 || e != api.OK || !Settled(v) {
		t.Error(n, e)
	}
}

func randomAct(rnd *rand.Rand, w *world.World) api.Act {
	a := api.Act{Kind: api.ActKind(1 + rnd.Intn(9)), Who: 1 + rnd.Intn(w.Clients()), At: rnd.Intn(w.Len() + 1), N: 1 + rnd.Intn(4), Mask: byte(rnd.Intn(256))}
	if rnd.Intn(2) == 0 {
		a.Kind = api.ActMutate
	}
	k := []string{"a", "b", "c", "b/2"}[rnd.Intn(4)]
	a.Mutator = []api.Mutator{inc(k), {Kind: api.MutDel, Key: k}, {Kind: api.MutPut, Key: k, Value: num(rnd.Intn(5))}, {Kind: api.MutMove, Key: "a", To: "b"}}[rnd.Intn(4)]
	return a
}

// P31.3, P0.5
func TestWhatFollows(t *testing.T) {
	for seed := range 60 {
		rnd := rand.New(rand.NewSource(int64(seed)))
		w := made(t, 1+rnd.Intn(4), 1+rnd.Intn(5))
		for range rnd.Intn(150) {
			w.Do(randomAct(rnd, w))
		}
		batch := 1 + rnd.Intn(4)
		if rnd.Intn(2) == 0 {
			before := views(w)
			Round(w, batch)
			for i, v := range views(w) {
				n := len(before[i].Image.Pending)
				if left := len(v.Image.Pending); n <= batch && left > 0 || n > batch && left > n-batch {
					t.Fatal("a round leaves too many", n, left)
				}
			}
		}
		if _, e := Run(w, batch); e != api.OK || !Settled(w) {
			t.Fatal(seed, e)
		}
		// The last round of each client came ahead of none that changed something.
		for _, v := range views(w) {
			if v.Image.Cookie != w.Store().Version {
				t.Fatal("a cookie is not the server's version")
			}
		}
		before := snapshot(w)
		Round(w, batch)
		after := snapshot(w)
		if !reflect.DeepEqual(before.views, after.views) || !reflect.DeepEqual(before.store, after.store) || !reflect.DeepEqual(before.letters, after.letters) {
			t.Fatal("a round changes a settled world")
		}
		for w.Len() > 0 {
			w.Do(api.Act{Kind: api.ActDeliver, At: rnd.Intn(w.Len())})
			if s := w.Store(); !reflect.DeepEqual(s, before.store) {
				t.Fatal("a late letter changes the map")
			}
			for i, v := range views(w) {
				if !reflect.DeepEqual(v.Head, before.views[i].Head) || !reflect.DeepEqual(v.Image.Base, before.views[i].Image.Base) {
					t.Fatal("a late letter changes a map")
				}
			}
		}
	}
}
