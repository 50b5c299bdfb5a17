package utf

import (
	"fmt"
	"math/rand"
	"strconv"
	"strings"
	"testing"
	"unicode/utf8"

	"commonplace/api"
)

// bad are bytes that are no text, each with the place of the first byte at which no rune begins.
func bad() map[string]int {
	return map[string]int{"\xff": 0, "a\xc3": 1, "\xed\xa0\x80": 0, "\xed\xbf\xbf": 0, "\xc0\x80": 0, "\xc1\xbf": 0, "\xe0\x9f\xbf": 0, "\xf0\x8f\xbf\xbf": 0, "\xf4\x90\x80\x80": 0, "é\x80": 2, "ab\xf0\x9f\x98": 2}
}

// P1.1
func TestValidRunesCount(t *testing.T) {
	for _, s := range []string{"", "a", "é", "€", "\U0001f600", "\x00\x7f", "\ud7ff\ue000\ufffd\U0010ffff", "\u0080\u07ff\u0800\uffff\U00010000"} {
		if !Valid(s) || Count(s) != utf8.RuneCountInString(s) {
			t.Errorf("%q: %v %d", s, Valid(s), Count(s))
		}
		var places []int
		var runes []rune
		for at, r := range Runes(s) {
			places, runes = append(places, at), append(runes, r)
		}
		i := 0
		for at, r := range s {
			if places[i] != at || runes[i] != r {
				t.Errorf("%q: %v %v", s, places, runes)
			}
			i++
		}
	}
	for s, n := range bad() {
		if Valid(s) {
			t.Errorf("%q is valid", s)
		}
		if got := Count(s); got != utf8.RuneCountInString(s[:n]) {
			t.Errorf("%q: %d runes", s, got)
		}
	}
}

func TestRunesMayBeLeftAndGoneThroughAgain(t *testing.T) {
	seq := Runes("aéb")
	for range 2 {
		n := 0
		for at, r := range seq {
			n++
			if at == 1 && r != 'é' {
				t.Error(at, r)
			}
			if at == 1 {
				break
			}
		}
		if n != 2 {
			t.Error(n)
		}
	}
	if Count("aéb") != 3 {
		t.Error("left for good")
	}
}

// P1.2
func TestQuote(t *testing.T) {
	for s, want := range map[string]string{
		"":                  `""`,
		"a\t\x01\"é":        `"a\t\u0001\"é"`,
		"\b\f\n\r\t":        `"\b\f\n\r\t"`,
		"\x00\x0b\x1f\x7f ": "\"\\u0000\\u000b\\u001f\x7f \"",
		`\/"`:               `"\\/\""`,
		"\u2028\U0001f600":  "\"\u2028\U0001f600\"",
	} {
		if q, e := Quote(s); q != want || e != api.OK {
			t.Errorf("%q: %s %v", s, q, e)
		}
	}
	for s := range bad() {
		if q, e := Quote(s); q != "" || e != api.ErrUTF {
			t.Errorf("%q: %q %v", s, q, e)
		}
	}
}

func TestUnquote(t *testing.T) {
	for _, x := range []struct {
		s    string
		at   int
		text string
		end  int
		e    api.Errno
	}{
		{`"\ud83d\ude00"x`, 0, "\U0001f600", 14, api.OK},
		{`"\uD83D\uDE00"`, 0, "\U0001f600", 14, api.OK},
		{`"\ud83dx"`, 0, "", 1, api.ErrUTF},
		{`"a`, 0, "", 2, api.ErrSyntax},
		{`a`, 0, "", 0, api.ErrSyntax},
		{``, 0, "", 0, api.ErrSyntax},
		{``, 1, "", 0, api.ErrRange},
		{`""`, -1, "", 0, api.ErrRange},
		{`""`, 3, "", 0, api.ErrRange},
		{`""`, 2, "", 2, api.ErrSyntax},
		{`""`, 0, "", 2, api.OK},
		{`ab"c"d`, 2, "c", 5, api.OK},
		{`"\"\\\/\b\f\n\r\t"`, 0, "\"\\/\b\f\n\r\t", 18, api.OK},
		{`"\u00e9\u00E9\u0000"`, 0, "éé\x00", 20, api.OK},
		{"\"a\x1f\"", 0, "", 2, api.ErrSyntax},
		{"\"a\xff\x01\"", 0, "", 2, api.ErrUTF},
		{`"a\x"`, 0, "", 2, api.ErrSyntax},
		{`"a\`, 0, "", 2, api.ErrSyntax},
		{`"a\u12`, 0, "", 2, api.ErrSyntax},
		{`"a\u12g4"`, 0, "", 2, api.ErrSyntax},
		{`"a\U0041"`, 0, "", 2, api.ErrSyntax},
		{`"\udc00"`, 0, "", 1, api.ErrUTF},
		{`"\ud800"`, 0, "", 1, api.ErrUTF},
		{`"\ud800\ud800\udc00"`, 0, "", 1, api.ErrUTF},
		{`"\ud800\n"`, 0, "", 1, api.ErrUTF},
		{`"\ud800\u12"`, 0, "", 1, api.ErrUTF},
		{`"\udbff\udfff"`, 0, "\U0010ffff", 14, api.OK},
		{"\"\xed\xa0\x80\"", 0, "", 1, api.ErrUTF},
	} {
		if s, n, e := Unquote(x.s, x.at); s != x.text || n != x.end || e != x.e {
			t.Errorf("%q at %d: %q %d %v", x.s, x.at, s, n, e)
		}
	}
}

// P1.2: each rune by its escape, or by the escapes of its halves.
func TestEscapesOfAllRunes(t *testing.T) {
	for r := rune(0); r <= 0x10FFFF; r++ {
		if r > 0x10400 && r < 0x10FC00 && r%97 > 0 || r >= 0xD800 && r <= 0xDFFF {
			continue
		}
		escape := fmt.Sprintf("\\u%04x", r)
		if r > 0xFFFF {
			escape = fmt.Sprintf("\\u%04X\\u%04x", 0xD800+(r-0x10000)>>10, 0xDC00+(r-0x10000)&0x3FF)
		}
		if s, n, e := Unquote(`"`+escape+`"`, 0); s != string(r) || n != len(escape)+2 || e != api.OK {
			t.Fatalf("%s: %q %d %v", escape, s, n, e)
		}
	}
	for r := rune(0xD800); r <= 0xDFFF; r++ {
		for _, behind := range []string{"", "x", `\ud7ff`, `\udbff`, `\ue000`, `\n`, `\u12`, `\\udc00`, `udc00`, `xudc00`} {
			if s, n, e := Unquote(fmt.Sprintf(`"x\u%04X%s"`, r, behind), 0); s != "" || n != 2 || e != api.ErrUTF {
				t.Fatalf("%x %s: %q %d %v", r, behind, s, n, e)
			}
		}
		if s, n, e := Unquote(fmt.Sprintf(`"\udc00\u%04x"`, r), 0); s != "" || n != 1 || e != api.ErrUTF {
			t.Fatalf("%x: %q %d %v", r, s, n, e)
		}
	}
}

// P1.2: whatever byte stands in an escape.
func TestBytesOfEscapes(t *testing.T) {
	for c := range 256 {
		in := strings.ContainsRune("0123456789abcdefABCDEF", rune(c))
		for place := range 4 {
			four := []byte("0041")
			four[place] = byte(c)
			s, n, e := Unquote(`"\u`+string(four)+`"`, 0)
			want, err := strconv.ParseUint(string(four), 16, 32)
			if in && (err != nil || want < 0xD800 || want > 0xDFFF) && (s != string(rune(want)) || n != 8 || e != api.OK) || !in && (s != "" || n != 1 || e != api.ErrSyntax) {
				t.Errorf("%q: %q %d %v", four, s, n, e)
			}
		}
		s, n, e := Unquote(`"\`+string([]byte{byte(c)})+`"`, 0)
		r, ok := map[int]string{'"': "\"", '\\': "\\", '/': "/", 'b': "\b", 'f': "\f", 'n': "\n", 'r': "\r", 't': "\t"}[c]
		if ok && (s != r || n != 4 || e != api.OK) || !ok && (s != "" || n != 1 || e != api.ErrSyntax) {
			t.Errorf("%x: %q %d %v", c, s, n, e)
		}
		plain := c >= 0x20 && c < 0x80 && c != '"' && c != '\\'
		s, n, e = Unquote(`"`+string([]byte{byte(c)})+`"`, 0)
		if plain && (s != string(rune(c)) || n != 3 || e != api.OK) || c < 0x20 && (n != 1 || e != api.ErrSyntax) || c >= 0x80 && (n != 1 || e != api.ErrUTF) {
			t.Errorf("%x: %q %d %v", c, s, n, e)
		}
		q, _ := Quote(string(rune(c)))
		if plain && q != `"`+string(rune(c))+`"` {
			t.Errorf("%x: %s", c, q)
		}
	}
	for s, n := range map[string]int{`"\`: 1, `"\u`: 1, `"\u0`: 1, `"\u00`: 1, `"\u004`: 1, `"\u0041`: 7, `"\n`: 3, `"`: 1} {
		if text, at, e := Unquote(s, 0); text != "" || at != n || e != api.ErrSyntax {
			t.Errorf("%s: %q %d %v", s, text, at, e)
		}
	}
}

// P1.3
func TestUnquoteOfQuote(t *testing.T) {
	rnd := rand.New(rand.NewSource(1))
	for range 2000 {
		var b strings.Builder
		for range rnd.Intn(12) {
			r := rune(rnd.Intn(0x110000) >> rnd.Intn(17))
			if utf8.ValidRune(r) {
				b.WriteRune(r)
			}
		}
		q, e := Quote(b.String())
		s, n, f := Unquote("x"+q+"y", 1)
		if e != api.OK || f != api.OK || s != b.String() || n != 1+len(q) {
			t.Fatalf("%q: %q %d %v %v", b.String(), s, n, e, f)
		}
	}
}

func TestQuoteOfWhatUnquoteReads(t *testing.T) {
	rnd := rand.New(rand.NewSource(2))
	parts := []string{`\"`, `\\`, `\/`, `\b`, `\u0041`, `\uD83D\uDE00`, `\u001f`, "é", "z", `\ud800`, `\udc00`, "\xff", `\q`, "\n"}
	for range 5000 {
		s := `"`
		for range rnd.Intn(5) {
			s += parts[rnd.Intn(len(parts))]
		}
		s += `"`
		text, _, e := Unquote(s, 0)
		if e != api.OK {
			if text != "" {
				t.Fatalf("%q: %q beside an error", s, text)
			}
			continue
		}
		q, _ := Quote(text)
		if again, n, e := Unquote(q, 0); again != text || n != len(q) || e != api.OK {
			t.Fatalf("%q: %q", s, again)
		}
	}
}
