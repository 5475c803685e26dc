package quote

import (
	"math/rand"
	"slices"
	"strings"
	"testing"
	"unicode/utf8"

	"driftnet/api"
)

// noise returns strings of runes, of invalid bytes, and of bytes that matter in quotes.
func noise(count int) []string {
	random := rand.New(rand.NewSource(4))
	pieces := []string{"a", "é", "€", "😀", "\xff", "\xc3", "\xed\xa0\x80", "\xc0\x80", "\xf4\x90\x80\x80", "\"", "\\", "`", "\n", "\r", "\t", "\x00", "\x7f", "\x1f", "\ufffd", "'", "\u0080", "\xe2\x82", "\xf0\x9f\x98", "x41"}
	out := []string{"", "plain"}
	for range count {
		var s strings.Builder
		for range random.Intn(9) {
			s.WriteString(pieces[random.Intn(len(pieces))])
		}
		out = append(out, s.String())
	}
	return out
}

// TestDecode covers P4.1: decoding is that of unicode/utf8.
func TestDecode(t *testing.T) {
	if r, size := Decode(""); r != 0 || size != 0 {
		t.Errorf("%x, %d", r, size)
	}
	for first := range 256 {
		for _, rest := range []string{"", "\x80", "\xbf", "\x7f", "\xc0", "\x80\x80", "\xa0\x80", "\x9f\xbf", "\x90\x80\x80", "\x8f\xbf\xbf", "\x80\x80\x80", "\xbf\xbf\xbf", "\x80\x80\x41", "\x90\xc0\x80", "abc"} {
			s := string([]byte{byte(first)}) + rest
			want, length := utf8.DecodeRuneInString(s)
			if r, size := Decode(s); r != want || size != length {
				t.Errorf("%x: %x, %d", s, r, size)
			}
		}
	}
	for _, s := range noise(500) {
		var want []rune
		for _, r := range s {
			want = append(want, r)
		}
		if l := Runes(s); !slices.Equal(l, want) {
			t.Errorf("%q: %x", s, l)
		}
	}
}

// TestEncode covers P4.1 and P4.5: encodings, and that the runes of a valid string make it up.
func TestEncode(t *testing.T) {
	for _, r := range []rune{-1, 0, 'a', 0x7f, 0x80, 0x7ff, 0x800, 0xd7ff, 0xd800, 0xdfff, 0xe000, 0xfffd, 0xffff, 0x10000, 0x1f601, 0x12345, 0x10ffff, 0x110000, 1 << 30, -1 << 31} {
		if s := Encode(r); s != string(r) {
			t.Errorf("%x: %x", r, s)
		}
	}
	for _, s := range noise(500) {
		var joined strings.Builder
		for _, r := range Runes(s) {
			joined.WriteString(Encode(r))
		}
		if (joined.String() == s) != utf8.ValidString(s) {
			t.Errorf("%q: %q", s, joined.String())
		}
	}
}

// TestQuote covers P4.2: what stands for each rune.
func TestQuote(t *testing.T) {
	for s, want := range map[string]string{
		"": `""`, "a\"b\n": `"a\"b\n"`, "\xff": `"\xff"`, "\\": `"\\"`, "\r\t": `"\r\t"`, "\x00\x1f\x7f": `"\x00\x1f\x7f"`, "é€😀": `"é€😀"`, "\a\b\v\f": `"\x07\x08\x0b\x0c"`, "`'": "\"`'\"", "\ufffd": "\"\ufffd\"", "\xed\xa0\x80": `"\xed\xa0\x80"`, "\xc3(": `"\xc3("`, " ~\u0080": "\" ~\u0080\"",
	} {
		if got := Quote(s); got != want {
			t.Errorf("%q: %s", s, got)
		}
	}
}

// TestUnquote covers P4.3: what quoted strings stand for, and what is none.
func TestUnquote(t *testing.T) {
	for s, want := range map[string]string{
		`"\u00e9\x21"`: "\u00e9!", "`a\\n`": "a\\n", "``": "", `""`: "", `"\a\b\f\n\r\t\v\\\'\""`: "\a\b\f\n\r\t\v\\'\"", `"\xfF"`: "\xff", `"\xAa\x09\U0010FFFF"`: "\xaa\t\U0010FFFF", `"\U0001F600\uFFFD"`: "😀\ufffd", "`\"\n\xff`": "\"\n\xff", "\"\xff\r\x00\"": "\xff\r\x00", `"\x41\x` + `42"`: "AB", `"\u004142"`: "A42", `"'"`: "'", "\"`\"": "`",
	} {
		if got, e := Unquote(s); e != api.OK || got != want {
			t.Errorf("%s: %q, %d", s, got, e)
		}
	}
	for _, s := range []string{"", `"`, "`", `"a`, `a"`, "a", `'a'`, "\"a`", "`a\"", "`a`b`", `"a"b"`, `"\q"`, `"\"`, `"\\\"`, `"\x4"`, `"\xg0"`, `"\x`, `"\u123"`, `"\ud800"`, `"\uDFFF"`, `"\U00110000"`, `"\UFFFFFFFF"`, `"\U0001F60"`, "\"a\nb\"", `"\0"`, `"\/"`, `"\X41"`, `"\x+1"`, "x\"\"", `"\`} {
		if got, e := Unquote(s); e != api.ErrQuote || got != "" {
			t.Errorf("%s: %q, %d", s, got, e)
		}
	}
}

// TestRoundTrip covers P4.4 and P4.6: quoting is undone, in one line of valid runes, but not for two strings in a row.
func TestRoundTrip(t *testing.T) {
	for _, s := range noise(1000) {
		q := Quote(s)
		if got, e := Unquote(q); e != api.OK || got != s {
			t.Errorf("%q: %q, %d", s, got, e)
		}
		if !utf8.ValidString(q) || strings.ContainsAny(q, "\n\r") {
			t.Errorf("%q", q)
		}
		if _, e := Unquote(q + q); e != api.ErrQuote {
			t.Errorf("%s twice: %d", q, e)
		}
		if _, e := Unquote(q + "`x`"); e != api.ErrQuote {
			t.Errorf("%s and more: %d", q, e)
		}
	}
	if _, e := Unquote("`a``b`"); e != api.ErrQuote {
		t.Error(e)
	}
}
