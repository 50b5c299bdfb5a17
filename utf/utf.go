// Package utf is layer 1: texts, rune by rune, and their quotes.
package utf

import (
	"iter"
	"strings"
	"unicode/utf8"

	"commonplace/api"
)

// What tells the halves, and where what they make begins.
const (
	highFirst = 0xD800
	lowFirst  = 0xDC00
	lowLast   = 0xDFFF
	halves    = 0x400
	beyond    = 0x10000
)

const digits = "0123456789abcdef"

// Valid: is it a text?
func Valid(s string) bool {
	return utf8.ValidString(s)
}

// Runes goes over places and the runes that begin there, up to the first byte at which none does.
func Runes(s string) iter.Seq2[int, rune] {
	return func(yield func(int, rune) bool) {
		for at := 0; at < len(s); {
			r, n, ok := first(s[at:])
			if !ok || !yield(at, r) {
				return
			}
			at += n
		}
	}
}

// first is the rune that s begins with, and how many bytes it has.
func first(s string) (rune, int, bool) {
	r, n := utf8.DecodeRuneInString(s)
	return r, n, n > 1 || n == 1 && r != utf8.RuneError
}

// Count is how many runes Runes tells.
func Count(s string) int {
	n := 0
	for range Runes(s) {
		n++
	}
	return n
}

// escapes has, for the rune behind a backslash, the rune that it stands for.
func escapes() map[rune]rune {
	return map[rune]rune{'"': '"', '\\': '\\', '/': '/', 'b': '\b', 'f': '\f', 'n': '\n', 'r': '\r', 't': '\t'}
}

// marks has, for a rune that a quote escapes by one letter, that letter.
func marks() map[rune]rune {
	m := map[rune]rune{}
	for mark, r := range escapes() {
		if r != '/' {
			m[r] = mark
		}
	}
	return m
}

// Quote is the text's quote.
func Quote(s string) (string, api.Errno) {
	if !Valid(s) {
		return "", api.ErrUTF
	}
	if !strange(s) {
		return `"` + s + `"`, api.OK
	}
	short := marks()
	var b strings.Builder
	b.WriteByte('"')
	for _, r := range Runes(s) {
		mark, ok := short[r]
		switch {
		case ok:
			b.WriteByte('\\')
			b.WriteRune(mark)
		case r < 0x20:
			b.WriteString(`\u00`)
			b.WriteByte(digits[r>>4])
			b.WriteByte(digits[r&15])
		default:
			b.WriteRune(r)
		}
	}
	b.WriteByte('"')
	return b.String(), api.OK
}

// strange: has a text a rune that its quote escapes?
func strange(s string) bool {
	for _, r := range Runes(s) {
		if r < 0x20 || r == '"' || r == '\\' {
			return true
		}
	}
	return false
}

// Unquote reads the quote that begins at a place.
func Unquote(s string, at int) (string, int, api.Errno) {
	if at < 0 || at > len(s) {
		return "", 0, api.ErrRange
	}
	if at == len(s) || s[at] != '"' {
		return "", at, api.ErrSyntax
	}
	at++
	single := escapes()
	var b strings.Builder
reading:
	for {
		var r rune
		n, e := 1, api.OK
		switch {
		case at == len(s) || s[at] < 0x20:
			e = api.ErrSyntax
		case s[at] == '"':
			break reading
		case s[at] == '\\':
			r, n, e = escape(s[at:], single)
		default:
			r, n, e = plain(s[at:])
		}
		if e != api.OK {
			return "", at, e
		}
		b.WriteRune(r)
		at += n
	}
	return b.String(), at + 1, api.OK
}

// plain is the rune that s begins with, and how many bytes it has.
func plain(s string) (rune, int, api.Errno) {
	for _, r := range Runes(s) {
		return r, utf8.RuneLen(r), api.OK
	}
	return 0, 0, api.ErrUTF
}

// escape is the rune that the escape stands for with which s begins, and how many bytes that has.
func escape(s string, single map[rune]rune) (rune, int, api.Errno) {
	if len(s) < 2 {
		return 0, 0, api.ErrSyntax
	}
	if r, ok := single[rune(s[1])]; ok {
		return r, 2, api.OK
	}
	r, ok := four(s)
	if !ok {
		return 0, 0, api.ErrSyntax
	}
	if r < highFirst || r > lowLast {
		return r, 6, api.OK
	}
	low, ok := four(s[6:])
	if r >= lowFirst || !ok || low < lowFirst || low > lowLast {
		return 0, 0, api.ErrUTF
	}
	return beyond + halves*(r-highFirst) + low - lowFirst, 12, api.OK
}

// four is the number of the escape of four digits with which s begins, if one does.
func four(s string) (rune, bool) {
	if len(s) < 6 || s[0] != '\\' || s[1] != 'u' {
		return 0, false
	}
	var r rune
	for _, c := range []byte(s[2:6]) {
		switch {
		case c >= '0' && c <= '9':
			r = r<<4 | rune(c-'0')
		case c >= 'a' && c <= 'f':
			r = r<<4 | rune(c-'a'+10)
		case c >= 'A' && c <= 'F':
			r = r<<4 | rune(c-'A'+10)
		default:
			return 0, false
		}
	}
	return r, true
}
