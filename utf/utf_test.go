package utf

import (
	"math/rand"
	"strings"
	"testing"
	"unicode/utf8"

	"commonplace/api"
)

// bad are bytes that are no text, each with the place of the first byte at which no rune begins.
func bad() map[string]int {
	return map[string]int{"\xff": 0, "a\xc3": 1, "\xed\xa0\x80": 0, "\xed\xbf\xbf": 0, "\xc0\x80": 0, "\xc1\xbf": 0, "\xe0\x9f\xbf": 0, "\xf0\x8f\xbf\xbf": 0, "\xf4\x90\x80\x80": 0, "é\x80": 2, "ab\xf0\x9f\x98": 2}
}

// P1.1
func TestValidRunesCount(t *testing.T) {
	for _, s := range []string{"", "a", "é", "€", "\U0001f600", "\x00\x7f", "\ud7ff\ue000\ufffd\U0010ffff", "\u0080\u07ff\u0800\uffff\U00010000"} {
		if !Valid(s) || Count(s) != utf8.RuneCountInString(s) {
			t.Errorf("%q: %v %d", s, Valid(s), Count(s))
		}
		var places []int
		var runes []rune
		for at, r := range Runes(s) {
			places, runes = append(places, at), append(runes, r)
		}
		i := 0
		for at, r := range s {
			if places[i] != at || runes[i] != r {
				t.Errorf("%q: %v %v", s, places, runes)
			}
			i++
		}
	}
	for s, n := range bad() {
		if Valid(s) {
			t.Errorf("%q is valid", s)
		}
		if got := Count(s); got != utf8.RuneCountInString(s[:n]) {
			t.Errorf("%q: %d runes", s, got)
		}
	}
}

func TestRunesMayBeLeftAndGoneThroughAgain(t *testing.T) {
	seq := Runes("aéb")
	for range 2 {
		n := 0
		for at, r := range seq {
			n++
			if at == 1 && r != 'é' {
				t.Error(at, r)
			}
			if at == 1 {
				break
			}
		}
		if n != 2 {
			t.Error(n)
		}
	}
	if Count("aéb") != 3 {
		t.Error("left for good")
	}
}

// P1.2
func TestQuote(t *testing.T) {
	for s, want := range map[string]string{
		"":                  `""`,
		"a\t\x01\"é":        `"a\t\u0001\"é"`,
		"\b\f\n\r\t":        `"\b\f\n\r\t"`,
		"\x00\x0b\x1f\x7f ": "\"\\u0000\\u000b\\u001f\x7f \"",
		`\/"`:               `"\\/\""`,
		"\u2028\U0001f600":  "\"\u2028\U0001f600\"",
	} {
		if q, e := Quote(s); q != want || e != api.OK {
			t.Errorf("%q: %s %v", s, q, e)
		}
	}
	for s := range bad() {
		if q, e := Quote(s); q != "" || e != api.ErrUTF {
			t.Errorf("%q: %q %v", s, q, e)
		}
	}
}

func TestUnquote(t *testing.T) {
	for _, x := range []struct {
		s    string
		at   int
		text string
		end  int
		e    api.Errno
	}{
		{`"\ud83d\ude00"x`, 0, "\U0001f600", 14, api.OK},
		{`"\uD83D\uDE00"`, 0, "\U0001f600", 14, api.OK},
		{`"\ud83dx"`, 0, "", 1, api.ErrUTF},
		{`"a`, 0, "", 2, api.ErrSyntax},
		{`a`, 0, "", 0, api.ErrSyntax},
		{``, 0, "", 0, api.ErrSyntax},
		{``, 1, "", 0, api.ErrRange},
		{`""`, -1, "", 0, api.ErrRange},
		{`""`, 3, "", 0, api.ErrRange},
		{`""`, 2, "", 2, api.ErrSyntax},
		{`""`, 0, "", 2, api.OK},
		{`ab"c"d`, 2, "c", 5, api.OK},
		{`"\"\\\/\b\f\n\r\t"`, 0, "\"\\/\b\f\n\r\t", 18, api.OK},
		{`"\u00e9\u00E9\u0000"`, 0, "éé\x00", 20, api.OK},
		{"\"a\x1f\"", 0, "", 2, api.ErrSyntax},
		{"\"a\xff\x01\"", 0, "", 2, api.ErrUTF},
		{`"a\x"`, 0, "", 2, api.ErrSyntax},
		{`"a\`, 0, "", 2, api.ErrSyntax},
		{`"a\u12`, 0, "", 2, api.ErrSyntax},
		{`"a\u12g4"`, 0, "", 2, api.ErrSyntax},
		{`"a\U0041"`, 0, "", 2, api.ErrSyntax},
		{`"\udc00"`, 0, "", 1, api.ErrUTF},
		{`"\ud800"`, 0, "", 1, api.ErrUTF},
		{`"\ud800\ud800\udc00"`, 0, "", 1, api.ErrUTF},
		{`"\ud800\n"`, 0, "", 1, api.ErrUTF},
		{`"\ud800\u12"`, 0, "", 1, api.ErrUTF},
		{`"\udbff\udfff"`, 0, "\U0010ffff", 14, api.OK},
		{"\"\xed\xa0\x80\"", 0, "", 1, api.ErrUTF},
	} {
		if s, n, e := Unquote(x.s, x.at); s != x.text || n != x.end || e != x.e {
			t.Errorf("%q at %d: %q %d %v", x.s, x.at, s, n, e)
		}
	}
}

// P1.3
func TestUnquoteOfQuote(t *testing.T) {
	rnd := rand.New(rand.NewSource(1))
	for range 2000 {
		var b strings.Builder
		for range rnd.Intn(12) {
			r := rune(rnd.Intn(0x110000) >> rnd.Intn(17))
			if utf8.ValidRune(r) {
				b.WriteRune(r)
			}
		}
		q, e := Quote(b.String())
		s, n, f := Unquote("x"+q+"y", 1)
		if e != api.OK || f != api.OK || s != b.String() || n != 1+len(q) {
			t.Fatalf("%q: %q %d %v %v", b.String(), s, n, e, f)
		}
	}
}

func TestQuoteOfWhatUnquoteReads(t *testing.T) {
	rnd := rand.New(rand.NewSource(2))
	parts := []string{`\"`, `\\`, `\/`, `\b`, `\u0041`, `\uD83D\uDE00`, `\u001f`, "é", "z", `\ud800`, `\udc00`, "\xff", `\q`, "\n"}
	for range 5000 {
		s := `"`
		for range rnd.Intn(5) {
			s += parts[rnd.Intn(len(parts))]
		}
		s += `"`
		text, _, e := Unquote(s, 0)
		if e != api.OK {
			if text != "" {
				t.Fatalf("%q: %q beside an error", s, text)
			}
			continue
		}
		q, _ := Quote(text)
		if again, n, e := Unquote(q, 0); again != text || n != len(q) || e != api.OK {
			t.Fatalf("%q: %q", s, again)
		}
	}
}
