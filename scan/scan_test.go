package scan

import (
	"fmt"
	"math/rand"
	"reflect"
	"sort"
	"strings"
	"testing"

	"commonplace/api"
	"commonplace/tree"
)

func num(i int) api.Value { return api.Value{Kind: api.Int, Int: int64(i)} }

func of(keys ...string) tree.Tree {
	var t tree.Tree
	for i, k := range keys {
		t = t.Put(k, num(i))
	}
	return t
}

func gather(seq func(func(string, api.Value) bool)) string {
	var l []string
	for k, v := range seq {
		l = append(l, fmt.Sprintf("%s=%d", k, v.Int))
	}
	return strings.Join(l, " ")
}

// P8.1
func TestScans(t *testing.T) {
	a := of("a", "b", "b/1", "b/2", "c")
	for got, want := range map[string]string{
		gather(All(a)) + ".":                        "a=0 b=1 b/1=2 b/2=3 c=4.",
		gather(Prefix(a, "b")):                      "b=1 b/1=2 b/2=3",
		gather(Prefix(a, "b/")):                     "b/1=2 b/2=3",
		gather(Prefix(a, "")):                       "a=0 b=1 b/1=2 b/2=3 c=4",
		gather(Range(a, "b", "c", false)):           "b=1 b/1=2 b/2=3",
		gather(Range(a, "a", "b", false)):           "a=0",
		gather(Range(a, "b/2", "a", true)):          "b/2=3 c=4",
		gather(Range(a, "b/0", "b/2", false)) + "_": "b/1=2_",
		gather(Range(a, "c", "b", false)) + "!":     "!",
		gather(Range(a, "b", "b", false)) + "?":     "?",
		gather(Range(a, "", "", false)) + "-":       "-",
		gather(Prefix(a, "d")) + "+":                "+",
		gather(All(tree.Tree{})) + "*":              "*",
	} {
		if got != want {
			t.Errorf("%q, want %q", got, want)
		}
	}
	if l := Keys(a, "b/"); !reflect.DeepEqual(l, []string{"b/1", "b/2"}) {
		t.Error(l)
	}
	if l := Keys(a, "x"); len(l) != 0 {
		t.Error(l)
	}
	f := of("\xfe", "\xff", "\xff\xff", "\xff\xffa")
	if l := Keys(f, "\xff\xff"); len(l) != 2 {
		t.Error(l)
	}
}

func TestScansMayBeLeftAndGoneThroughAgain(t *testing.T) {
	var l []string
	for i := range 100 {
		l = append(l, fmt.Sprintf("%03d", i))
	}
	a := of(l...)
	for _, seq := range []func(func(string, api.Value) bool){All(a), Range(a, "", "zz", false), Prefix(a, "0")} {
		for most := range 30 {
			n := 0
			for k := range seq {
				if k != l[n] {
					t.Fatal(k, n)
				}
				n++
				if n > most {
					break
				}
			}
			if n != most+1 {
				t.Fatal(n, most)
			}
		}
	}
	deep := tree.Tree{}.Put("k", api.Value{Kind: api.List, List: []api.Value{num(1)}})
	for range 2 {
		for _, v := range All(deep) {
			if v.List[0].Int != 1 {
				t.Error("memory is shared")
			}
			v.List[0].Int = 2
		}
	}
	x, _ := From(deep, "")
	x.Value.List[0].Int = 3
	x, _ = At(deep, 0)
	if x.Value.List[0].Int != 1 {
		t.Error("memory is shared")
	}
}

// P8.2
func TestPlaces(t *testing.T) {
	a := of("a", "b", "b/1", "b/2", "c")
	for _, x := range []struct {
		k            string
		rank         int
		from, before string
	}{{"b/15", 3, "b/2", "b/1"}, {"", 0, "a", ""}, {"a", 0, "a", ""}, {"b", 1, "b", "a"}, {"c", 4, "c", "b/2"}, {"d", 5, "", "c"}} {
		from, fok := From(a, x.k)
		before, bok := Before(a, x.k)
		if Rank(a, x.k) != x.rank || from.Key != x.from || before.Key != x.before || fok != (x.from != "") || bok != (x.before != "") {
			t.Error(x, Rank(a, x.k), from, before)
		}
	}
	for i, k := range []string{"a", "b", "b/1", "b/2", "c"} {
		if x, ok := At(a, i); !ok || x.Key != k || x.Value.Int != int64(i) {
			t.Error(i, x)
		}
	}
	for _, i := range []int{-1, 5, -1 << 62, 1 << 62} {
		if x, ok := At(a, i); ok || x.Key != "" {
			t.Error(i, x)
		}
	}
	var none tree.Tree
	if _, ok := From(none, ""); ok || Rank(none, "z") != 0 {
		t.Error("of none")
	}
	if _, ok := Before(none, "z"); ok {
		t.Error("of none")
	}
	if _, ok := At(none, 0); ok {
		t.Error("of none")
	}
}

// P8.3
func TestWhatFollows(t *testing.T) {
	rnd := rand.New(rand.NewSource(9))
	for range 60 {
		var a tree.Tree
		for range rnd.Intn(300) {
			a = a.Put(fmt.Sprint(rnd.Intn(500)), num(1))
		}
		i := 0
		l := a.Entries()
		for k, v := range All(a) {
			if l[i].Key != k || l[i].Value.Int != v.Int {
				t.Fatal(k)
			}
			i++
		}
		if i != len(l) {
			t.Fatal(i)
		}
		for range 50 {
			k, hi := fmt.Sprint(rnd.Intn(500)), fmt.Sprint(rnd.Intn(500))
			x, ok := At(a, Rank(a, k))
			y, found := From(a, k)
			if ok != found || !reflect.DeepEqual(x, y) {
				t.Fatal(k, x, y)
			}
			rank := sort.Search(len(l), func(i int) bool { return l[i].Key >= k })
			end := sort.Search(len(l), func(i int) bool { return l[i].Key >= hi })
			if Rank(a, k) != rank {
				t.Fatal(k, rank)
			}
			n := 0
			for key := range Range(a, k, hi, false) {
				if key != l[rank+n].Key {
					t.Fatal(k, hi, key)
				}
				n++
			}
			if n != max(end-rank, 0) {
				t.Fatal(k, hi, n)
			}
			if b, ok := Before(a, k); ok != (rank > 0) || ok && b.Key != l[rank-1].Key {
				t.Fatal(k, b)
			}
		}
	}
}
