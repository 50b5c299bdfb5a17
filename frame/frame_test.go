package frame

import (
	"bytes"
	"math/rand"
	"testing"

	"commonplace/api"
	"commonplace/crc"
)

// P16.1
func TestFrameOpenBody(t *testing.T) {
	f, e := Frame(1, nil)
	if e != api.OK || !bytes.Equal(f, crc.Seal([]byte{1})) || len(f) != 5 {
		t.Error(f, e)
	}
	if f, e := Frame(0, []byte("x")); e != api.ErrArg || f != nil {
		t.Error(f, e)
	}
	body := append(make([]byte, 0, 64), "body"...)
	f, e = Frame(255, body)
	if e != api.OK || !bytes.Equal(f, crc.Seal([]byte("\xffbody"))) {
		t.Error(f, e)
	}
	k, b, e := Open(f)
	if k != 255 || !bytes.Equal(b, body) || e != api.OK {
		t.Error(k, b, e)
	}
	b[0] = 'x'
	c, e := Body(255, f)
	if e != api.OK || !bytes.Equal(c, body) {
		t.Error("memory is shared", c, e)
	}
	c[0] = 'y'
	if again, _ := Body(255, f); !bytes.Equal(again, body) {
		t.Error("memory is shared")
	}
	for i, x := range []struct {
		b []byte
		e api.Errno
	}{{nil, api.ErrSum}, {crc.Seal(nil), api.ErrSum}, {crc.Seal([]byte{0}), api.ErrArg}, {crc.Seal([]byte{0, 1}), api.ErrArg}, {[]byte{1, 2, 3, 4, 5}, api.ErrSum}, {f[1:], api.ErrSum}} {
		k, b, e := Open(x.b)
		c, g := Body(0, x.b)
		if k != 0 || b != nil || c != nil || e != x.e || g != x.e {
			t.Error(i, e, g)
		}
	}
	for _, k := range []byte{0, 1, 254} {
		if b, e := Body(k, f); e != api.ErrState || b != nil {
			t.Error(k, e)
		}
	}
}

// P16.2
func TestSpoil(t *testing.T) {
	b := []byte{1, 2, 3}
	s, e := Spoil(b, 2, 255)
	if e != api.OK || !bytes.Equal(s, []byte{1, 2, 0xFC}) || b[2] != 3 {
		t.Error(s, e)
	}
	for _, x := range []struct {
		at   int
		mask byte
		e    api.Errno
	}{{-1, 1, api.ErrRange}, {3, 1, api.ErrRange}, {3, 0, api.ErrRange}, {0, 0, api.ErrArg}} {
		if s, e := Spoil(b, x.at, x.mask); e != x.e || s != nil {
			t.Error(x, e)
		}
	}
	if _, e := Spoil(nil, 0, 0); e != api.ErrRange {
		t.Error(e)
	}
}

// P16.3
func TestWhatFollows(t *testing.T) {
	rnd := rand.New(rand.NewSource(19))
	seen := map[string]string{}
	for range 2000 {
		k, body := byte(1+rnd.Intn(255)), make([]byte, rnd.Intn(20))
		rnd.Read(body)
		f, _ := Frame(k, body)
		kind, b, e := Open(f)
		if kind != k || !bytes.Equal(b, body) || e != api.OK {
			t.Fatal(e)
		}
		s, _ := Spoil(f, rnd.Intn(len(f)), byte(1+rnd.Intn(255)))
		if _, _, e := Open(s); e != api.ErrSum {
			t.Fatal(e)
		}
		name := string(rune(k)) + string(body)
		if other, ok := seen[string(f)]; ok && other != name {
			t.Fatal("two of one frame")
		}
		seen[string(f)] = name
	}
}
