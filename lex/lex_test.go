package lex

import (
	"math/rand"
	"slices"
	"strconv"
	"strings"
	"testing"

	"driftnet/api"
	"driftnet/quote"
)

// show returns the tokens with their kinds, separated by blanks.
func show(l []Token) string {
	var parts []string
	for _, x := range l {
		parts = append(parts, strconv.Itoa(x.Kind)+":"+x.Text)
	}
	return strings.Join(parts, " ")
}

// TestTokens covers P20.1: the tokens of texts.
func TestTokens(t *testing.T) {
	for s, want := range map[string]string{
		"":                                      "",
		" \t\r\n":                               "",
		`rate({a!="x\""}[5m]) >= 1.5`:           `1:rate 6:( 6:{ 1:a 6:!= 2:x" 6:} 6:[ 4:5m 6:] 6:) 6:>= 3:1.5`,
		"azAZ09_ Zz":                            "1:azAZ09_ 1:Zz",
		"a_1 _ Z9":                              "1:a_1 1:_ 1:Z9",
		"|=|~!=!~=~==>=<=":                      "6:|= 6:|~ 6:!= 6:!~ 6:=~ 6:== 6:>= 6:<=",
		"{}()[],|=><+-*/":                       "6:{ 6:} 6:( 6:) 6:[ 6:] 6:, 6:|= 6:> 6:< 6:+ 6:- 6:* 6:/",
		"===~=":                                 "6:== 6:=~ 6:=",
		"||=":                                   "6:| 6:|=",
		">>=":                                   "6:> 6:>=",
		"0 10 1.50 1h30m 5KB 1.5KiB 1us 2ms 3B": "3:0 3:10 3:1.50 4:1h30m 5:5KB 5:1.5KiB 4:1us 4:2ms 5:3B",
		"-1":                                    "6:- 3:1",
		"`a\\`\"b\\\\\"`\"`":                    "2:a\\ 2:b\\ 2:\"",
		"\"é\\x41\xff\"a":                       "2:éA\xff 1:a",
		"`\n`\"\"":                              "2:\n 2:",
		"5m]":                                   "4:5m 6:]",
		"1.5+a":                                 "3:1.5 6:+ 1:a",
		strings.Repeat(" ", 4096):               "",
		strings.Repeat("a", 4096):               "1:" + strings.Repeat("a", 4096),
		strings.Repeat("1", 40):                 "3:" + strings.Repeat("1", 40),
		"1w1d1h1m1s1ms1us1ns":                   "4:1w1d1h1m1s1ms1us1ns",
		"bool offset on":                        "1:bool 1:offset 1:on",
	} {
		l, at, e := Tokens(s)
		if e != api.OK || at != 0 || show(l) != want {
			t.Errorf("%s: %s, %d at %d", s, show(l), e, at)
		}
	}
	l, _, _ := Tokens(" ab=\n\"x\\\"\"  1.5ms")
	var at []int
	for _, x := range l {
		at = append(at, x.At)
	}
	if !slices.Equal(at, []int{1, 3, 5, 12}) {
		t.Errorf("%v", at)
	}
}

// TestErrors covers P20.1: where something starts that is not a token.
func TestErrors(t *testing.T) {
	for s, want := range map[string]int{
		`{a=~"x"} |= 'y`: 12, "5KB 5x": 4, "!": 0, "a ! b": 2, "~": 0, "a=\"x": 2, "`x": 0, "\"a\\\"": 0, "\"a\nb\"": 0, `a "\q" "`: 2, "1.": 0, " 1.5.2": 1, "1s1m": 0, "01": 0, "1e5": 0, "1_000": 0, "5kb": 0, "1..2": 0, strings.Repeat("1", 41): 0, "a;b": 1, "a\x00": 1, "a\v": 1, "é": 0, "a\u00a0b": 1, "|= #": 3, "\"\\": 0, "a.b": 1, "$x": 0, "a%b": 1, "&": 0, "\"a\"\"": 3, "`a`b`": 4, "\\": 0, "| = | ~=": 6, "a\"b\"1c": 4,
	} {
		l, at, e := Tokens(s)
		if e != api.ErrToken || at != want || len(l) > 0 {
			t.Errorf("%q: %v, %d at %d", s, l, e, at)
		}
	}
	for _, s := range []string{strings.Repeat(" ", 4097), strings.Repeat("!", 4097)} {
		if l, at, e := Tokens(s); e != api.ErrLimit || at != 0 || len(l) > 0 {
			t.Errorf("%d tokens, %d at %d", len(l), e, at)
		}
	}
}

// TestLaws covers P20.2, P20.3 and P20.4: spaces between tokens do not matter, if there are some.
func TestLaws(t *testing.T) {
	random := rand.New(rand.NewSource(20))
	texts := []string{"a", "_b1", "rate", "1.5", "0", "1h30m", "5KB", "7B"}
	texts = append(texts, signs[:]...)
	spaces := []string{" ", "\t", "\r\n", "   "}
	for range 5000 {
		var parts []string
		var want []Token
		for range random.Intn(8) {
			if random.Intn(4) == 0 {
				s := []string{"", "x", "\"\\", "é\n", "`", "\xff"}[random.Intn(6)]
				parts = append(parts, quote.Quote(s))
				want = append(want, Token{Kind: Text, Text: s})
				continue
			}
			i := random.Intn(len(texts))
			parts = append(parts, texts[i])
			want = append(want, Token{Kind: []int{1, 1, 1, 3, 3, 4, 5, 5, 6}[min(i, 8)], Text: texts[i]})
		}
		spaced := spaces[random.Intn(4)]
		for _, part := range parts {
			spaced += part + spaces[random.Intn(4)]
		}
		for _, s := range []string{strings.Join(parts, " "), spaced} {
			l, at, e := Tokens(s)
			for i := range l {
				if !strings.HasPrefix(s[l[i].At:], parts[i]) {
					t.Fatalf("%q: %v", s, l)
				}
				l[i].At = 0
			}
			if e != api.OK || at != 0 || !slices.Equal(l, want) {
				t.Fatalf("%q: %v, %d at %d", s, l, e, at)
			}
		}
	}
}
