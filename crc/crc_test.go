package crc

import (
	"bytes"
	"hash/crc32"
	"math/rand"
	"testing"
)

// P15.1
func TestSumMore(t *testing.T) {
	if Sum([]byte("123456789")) != 0xCBF43926 || Sum(nil) != 0 || More(0, nil) != 0 || More(7, nil) != 7 {
		t.Error("examples")
	}
	rnd := rand.New(rand.NewSource(17))
	for n := range 300 {
		b := make([]byte, n)
		rnd.Read(b)
		if Sum(b) != crc32.ChecksumIEEE(b) {
			t.Fatal(n)
		}
		start := rnd.Uint32()
		if More(start, b) != crc32.Update(start, crc32.IEEETable, b) {
			t.Fatal(n, start)
		}
	}
}

// P15.2
func TestSealOpen(t *testing.T) {
	if s := Seal(nil); !bytes.Equal(s, []byte{0, 0, 0, 0}) {
		t.Error(s)
	}
	b := append(make([]byte, 0, 64), "123456789"...)
	s := Seal(b)
	if !bytes.Equal(s, []byte("123456789\x26\x39\xf4\xcb")) {
		t.Error(s)
	}
	s[0] = 'x'
	if b[0] != '1' {
		t.Error("memory is shared")
	}
	s[0] = '1'
	o, ok := Open(s)
	if !ok || !bytes.Equal(o, b) {
		t.Error(o, ok)
	}
	o[0] = 'x'
	if s[0] != '1' {
		t.Error("memory is shared")
	}
	if o, ok := Open([]byte{0, 0, 0, 0}); !ok || len(o) != 0 {
		t.Error(o, ok)
	}
	for _, x := range [][]byte{nil, {0}, {0, 0, 0}, {0, 0, 0, 1}, []byte("123456789\x26\x39\xf4\xca"), []byte("123456789\xcb\xf4\x39\x26"), []byte("12345678\x26\x39\xf4\xcb")} {
		if o, ok := Open(x); ok || o != nil {
			t.Error(x)
		}
	}
}

// P15.3
func TestWhatFollows(t *testing.T) {
	rnd := rand.New(rand.NewSource(18))
	for range 2000 {
		a, b := make([]byte, rnd.Intn(40)), make([]byte, rnd.Intn(40))
		rnd.Read(a)
		rnd.Read(b)
		if More(Sum(a), b) != Sum(append(bytes.Clone(a), b...)) {
			t.Fatal("More of a Sum")
		}
		s := Seal(a)
		if o, ok := Open(s); !ok || !bytes.Equal(o, a) {
			t.Fatal("Open of Seal")
		}
		at := rnd.Intn(len(s))
		changed := false
		for i := at; i < min(at+1+rnd.Intn(4), len(s)); i++ {
			mask := byte(rnd.Intn(256))
			changed = changed || mask != 0
			s[i] ^= mask
		}
		if _, ok := Open(s); ok == changed {
			t.Fatal("damage is not told")
		}
	}
}
