package table

import (
	"math/rand"
	"reflect"
	"testing"

	"commonplace/api"
)

func example(t *testing.T) *Table {
	t.Helper()
	var x Table
	for _, n := range [][3]uint64{{7, 3, 1}, {8, 4, 1}, {7, 5, 2}} {
		if e := x.Note(n[0], n[1], n[2]); e != api.OK {
			t.Fatal(n, e)
		}
	}
	return &x
}

// P20.1
func TestNoteLast(t *testing.T) {
	x := example(t)
	if x.Last(7) != 2 || x.Last(8) != 1 || x.Last(9) != 0 || x.Last(0) != 0 {
		t.Error("Last")
	}
	for _, n := range []struct {
		client, version, id uint64
		e                   api.Errno
	}{
		{0, 0, 0, api.ErrArg}, {api.MaxNumber + 1, 6, 1, api.ErrArg}, {7, 0, 3, api.ErrNum}, {7, api.MaxNumber + 1, 3, api.ErrNum}, {7, 6, 0, api.ErrNum}, {7, 5, 0, api.ErrNum}, {7, 6, api.MaxNumber + 1, api.ErrNum},
		{7, 5, 3, api.ErrOld}, {7, 4, 9, api.ErrOld}, {7, 6, 2, api.ErrOld}, {7, 6, 1, api.ErrOld}, {7, 6, 4, api.ErrGap}, {9, 6, 2, api.ErrGap}, {9, 5, 2, api.ErrOld},
	} {
		before := x.Copy()
		if e := x.Note(n.client, n.version, n.id); e != n.e || !reflect.DeepEqual(x, before) {
			t.Error(n, e)
		}
	}
	if x.Note(api.MaxNumber, api.MaxNumber, 1) != api.OK || x.Last(api.MaxNumber) != 1 || x.Newest() != api.MaxNumber {
		t.Error("the greatest numbers")
	}
	if id, ok := x.At(api.MaxNumber, 1<<64-1); id != 1 || !ok {
		t.Error("beyond all versions")
	}
}

// P20.2
func TestAtWhoForget(t *testing.T) {
	x := example(t)
	for _, n := range []struct{ client, version, id uint64 }{{7, 4, 1}, {8, 3, 0}, {7, 2, 0}, {7, 3, 1}, {7, 5, 2}, {7, 99, 2}, {8, 4, 1}, {9, 4, 0}, {7, 0, 0}} {
		if id, ok := x.At(n.client, n.version); id != n.id || !ok {
			t.Error(n, id, ok)
		}
	}
	for version, want := range map[uint64][2]uint64{3: {7, 1}, 4: {8, 1}, 5: {7, 2}} {
		if client, id, ok := x.Who(version); client != want[0] || id != want[1] || !ok {
			t.Error(version, client, id, ok)
		}
	}
	for _, version := range []uint64{0, 2, 6, 1 << 63} {
		if client, id, ok := x.Who(version); client != 0 || id != 0 || ok {
			t.Error(version, client, id)
		}
	}
	x.Forget(5)
	x.Forget(4)
	for _, n := range []struct{ client, version uint64 }{{7, 4}, {8, 4}, {9, 4}, {7, 0}} {
		if id, ok := x.At(n.client, n.version); id != 0 || ok {
			t.Error(n, id, ok)
		}
	}
	for _, n := range []struct{ client, version, id uint64 }{{7, 5, 2}, {8, 5, 1}, {7, 6, 2}, {9, 5, 0}} {
		if id, ok := x.At(n.client, n.version); id != n.id || !ok {
			t.Error(n, id, ok)
		}
	}
	if _, _, ok := x.Who(4); ok {
		t.Error("not forgotten")
	}
	if client, id, ok := x.Who(5); client != 7 || id != 2 || !ok {
		t.Error("forgotten")
	}
	x.Forget(100)
	if _, ok := x.At(7, 99); ok {
		t.Error("not forgotten")
	}
	if id, ok := x.At(7, 100); id != 2 || !ok || x.Last(7) != 2 || x.Last(8) != 1 || x.Newest() != 5 {
		t.Error("the last numbers stay known")
	}
	if x.Note(8, 6, 2) != api.OK || x.Last(8) != 2 || x.Newest() != 6 {
		t.Error("Note behind Forget")
	}
	if _, _, ok := x.Who(6); ok {
		t.Error("Who of what is forgotten")
	}
	if id, ok := x.At(8, 100); id != 2 || !ok {
		t.Error(id, ok)
	}
	if _, ok := x.At(8, 99); ok {
		t.Error("known again")
	}
}

// P20.3
func TestNewestClientsCopy(t *testing.T) {
	x := example(t)
	c := x.Copy()
	if x.Newest() != 5 || !reflect.DeepEqual(x.Clients(), []uint64{7, 8}) {
		t.Error(x.Newest(), x.Clients())
	}
	x.Clients()[0] = 1
	x.Note(9, 6, 1)
	x.Note(7, 7, 3)
	x.Forget(7)
	if !reflect.DeepEqual(x.Clients(), []uint64{7, 8, 9}) || !reflect.DeepEqual(c.Clients(), []uint64{7, 8}) || c.Last(7) != 2 || c.Newest() != 5 {
		t.Error("not apart")
	}
	if id, ok := c.At(7, 3); id != 1 || !ok {
		t.Error("not apart")
	}
	c.Note(7, 8, 3)
	c.Note(7, 9, 4)
	if x.Last(7) != 3 {
		t.Error("not apart")
	}
	for id := uint64(1); id <= 3; id++ {
		c.Note(5, 20+id, id)
	}
	d := c.Copy()
	c.Note(5, 24, 4)
	d.Note(5, 30, 4)
	if id, _ := c.At(5, 24); id != 4 {
		t.Error("not apart", id)
	}
	var none *Table
	_, ok1 := none.At(1, 1)
	_, _, ok2 := none.Who(1)
	none.Forget(1)
	if none.Note(0, 0, 0) != api.ErrNil || none.Last(1) != 0 || ok1 || ok2 || none.Newest() != 0 || none.Clients() != nil || none.Copy() != nil {
		t.Error("of nil")
	}
	var zero Table
	if id, ok := zero.At(1, 1); id != 0 || !ok || zero.Newest() != 0 || len(zero.Clients()) != 0 || zero.Copy() == nil {
		t.Error("a zero one")
	}
	zero.Forget(3)
	if _, ok := zero.At(1, 2); ok {
		t.Error("a zero one forgets")
	}
}

// P20.4
func TestWhatFollows(t *testing.T) {
	rnd := rand.New(rand.NewSource(23))
	for range 50 {
		var x Table
		last := map[uint64]uint64{}
		at := []map[uint64]uint64{{}}
		forgotten := uint64(0)
		version := uint64(0)
		for range 60 {
			client := 1 + uint64(rnd.Intn(4))
			step := 1 + uint64(rnd.Intn(3))
			for i := uint64(0); i < step; i++ {
				now := map[uint64]uint64{}
				for c, id := range last {
					now[c] = id
				}
				if i == step-1 {
					last[client]++
					now[client] = last[client]
				}
				at = append(at, now)
			}
			version += step
			if e := x.Note(client, version, last[client]); e != api.OK {
				t.Fatal(e)
			}
			if rnd.Intn(5) == 0 {
				v := uint64(rnd.Intn(int(version) + 3))
				x.Forget(v)
				forgotten = max(forgotten, v)
			}
			for v := range at {
				for c := uint64(1); c <= 4; c++ {
					id, ok := x.At(c, uint64(v))
					if ok != (uint64(v) >= forgotten) || ok && id != at[v][c] || !ok && id != 0 {
						t.Fatal(c, v, id, ok, at[v][c])
					}
				}
			}
			for c := uint64(1); c <= 4; c++ {
				if id, ok := x.At(c, max(x.Newest(), forgotten)); !ok || id != x.Last(c) || id != last[c] {
					t.Fatal(c, id)
				}
			}
		}
		x.Forget(version)
		for c, l := range x.notes {
			if len(l) != 1 {
				t.Fatal("more is kept than is needed", c, len(l))
			}
		}
	}
}
