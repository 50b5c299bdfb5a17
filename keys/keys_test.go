package keys

import (
	"math/rand"
	"strings"
	"testing"

	"commonplace/api"
)

// P5.1
func TestMay(t *testing.T) {
	for k, want := range map[string]api.Errno{
		"a": api.OK, "é/\x00": api.OK, strings.Repeat("a", 64): api.OK, strings.Repeat("é", 32): api.OK,
		"": api.ErrKey, strings.Repeat("a", 65): api.ErrLong, strings.Repeat("\xff", 65): api.ErrLong, strings.Repeat("é", 33): api.ErrLong, "\xff": api.ErrUTF, "a\xc3": api.ErrUTF,
	} {
		if e := May(k); e != want {
			t.Errorf("%q: %v", k, e)
		}
	}
}

// P5.2
func TestBeginsEndWithin(t *testing.T) {
	for _, x := range []struct {
		k, p string
		ok   bool
	}{{"a/x", "a/", true}, {"a", "a/", false}, {"a", "a", true}, {"", "", true}, {"x", "", true}, {"b", "a", false}, {"\xff\xfe", "\xff", true}} {
		if Begins(x.k, x.p) != x.ok {
			t.Error(x)
		}
	}
	for _, x := range []struct {
		p, end string
		ok     bool
	}{{"ab", "ac", true}, {"a\xff", "b", true}, {"", "", false}, {"\xff", "", false}, {"\xff\xff\xff", "", false}, {"a\xff\xff", "b", true}, {"\xfe\xff", "\xff", true}, {"\xff\x00", "\xff\x01", true}, {"a\x7f", "a\x80", true}} {
		if end, ok := End(x.p); end != x.end || ok != x.ok {
			t.Errorf("%q: %q %v", x.p, end, ok)
		}
	}
	for _, x := range []struct {
		k, lo, hi string
		open, ok  bool
	}{{"a", "a", "b", false, true}, {"b", "a", "b", false, false}, {"", "a", "b", false, false}, {"az", "a", "b", false, true}, {"a", "a", "a", false, false}, {"a", "b", "a", false, false}, {"z", "a", "b", true, true}, {"a", "a", "", true, true}, {"", "a", "", true, false}, {"", "", "", false, false}, {"", "", "", true, true}} {
		if Within(x.k, x.lo, x.hi, x.open) != x.ok {
			t.Error(x)
		}
	}
}

// P5.3
func TestTurn(t *testing.T) {
	for _, x := range []struct {
		k, from, to, want string
		e                 api.Errno
	}{
		{"a/x", "a/", "b/", "b/x", api.OK}, {"c", "a/", "b/", "", api.ErrNone}, {"a", "", "b", "ba", api.OK}, {"a", "a", "", "", api.ErrKey}, {"ab", "a", "", "b", api.OK}, {"a", "a", "a", "a", api.OK},
		{"a", "a", strings.Repeat("b", 65), "", api.ErrLong}, {"a", "a", strings.Repeat("b", 64), strings.Repeat("b", 64), api.OK}, {"a", "a", "\xff", "", api.ErrUTF}, {"\xffa", "\xff", "", "a", api.OK}, {"", "", "", "", api.ErrKey}, {"", "x", "y", "", api.ErrNone},
		{"é", "\xc3", "\xc4", "\u0129", api.OK},
	} {
		if k, e := Turn(x.k, x.from, x.to); k != x.want || e != x.e {
			t.Errorf("%q %q %q: %q %v", x.k, x.from, x.to, k, e)
		}
	}
}

// P5.4
func TestWhatFollows(t *testing.T) {
	rnd := rand.New(rand.NewSource(7))
	parts := []string{"a", "b", "\xff", "\xfe", "\x00", "/"}
	some := func(n int) string {
		s := ""
		for range rnd.Intn(n) {
			s += parts[rnd.Intn(len(parts))]
		}
		return s
	}
	for range 20000 {
		k, p := some(6), some(4)
		end, ok := End(p)
		if Begins(k, p) != Within(k, p, end, !ok) {
			t.Fatalf("%q %q", k, p)
		}
		from, to := "a"+some(3), "b"+some(3)
		x, y := from+some(3), from+some(3)
		tx, e := Turn(x, from, to)
		ty, f := Turn(y, from, to)
		if e != api.OK || f != api.OK {
			continue
		}
		if (x < y) != (tx < ty) {
			t.Fatalf("%q %q: %q %q", x, y, tx, ty)
		}
		if back, e := Turn(tx, to, from); May(x) == api.OK && (back != x || e != api.OK) {
			t.Fatalf("%q: %q %v", x, back, e)
		}
	}
}
