package rex

import (
	"fmt"
	"math/rand"
	"regexp"
	"slices"
	"strings"
	"testing"
	"unicode/utf8"

	"driftnet/api"
	"driftnet/runes"
)

func one(from, to int) Node {
	return Node{Kind: One, Set: runes.Of(runes.Range{From: from, To: to})}
}

func seq(l ...Node) Node { return Node{Kind: Seq, L: l} }
func alt(l ...Node) Node { return Node{Kind: Alt, L: l} }

func group(name string, n Node) Node {
	return Node{Kind: Group, Name: name, L: []Node{n}}
}

func repeat(n Node, least, most int, lazy bool) Node {
	return Node{Kind: Repeat, L: []Node{n}, Min: least, Max: most, Lazy: lazy}
}

var (
	a, b, c = one('a', 'a'), one('b', 'b'), one('c', 'c')
	empty   = Node{Kind: Empty}
)

// chain is groups and repetitions in turn, count of them, around a rune.
func chain(count int) Node {
	n := a
	for i := range count {
		if i%2 == 0 {
			n = repeat(n, 0, -1, false)
		} else {
			n = group("", n)
		}
	}
	return n
}

func groups(count int) Node {
	n := a
	for range count {
		n = group("", n)
	}
	return n
}

// TestCheck covers P10.1: what conforms to the table.
func TestCheck(t *testing.T) {
	zero := runes.Set{{From: 5, To: 3}}
	for _, n := range []Node{
		empty, {Kind: Empty, Set: zero, L: []Node{}}, a, {Kind: One}, seq(a, b), alt(a, empty), alt(empty, empty), repeat(a, 0, 1, true), repeat(a, 50, 50, false), repeat(a, 50, -1, false), repeat(a, 0, 50, false),
		group("", empty), group("x_1", a), {Kind: Begin}, {Kind: End}, repeat(Node{Kind: Begin}, 0, -1, false), repeat(repeat(a, 1, 1, false), 1, 1, true), seq(alt(a, b), c), alt(seq(a, b), c), chain(19), groups(16), seq(group("x", a), group("y", a), group("", a), group("", a)),
	} {
		if e := Check(n); e != api.OK {
			t.Errorf("%+v: %d", n, e)
		}
	}
	for _, n := range []Node{
		{}, {Kind: 9}, {Kind: -1}, {Kind: Empty, L: []Node{a}}, {Kind: Empty, Min: 1}, {Kind: Empty, Lazy: true}, {Kind: Empty, Name: "x"}, {Kind: Begin, Set: Any()}, {Kind: Begin, Set: a.Set}, {Kind: End, Max: 1},
		{Kind: One, Set: zero}, {Kind: One, Set: runes.Set{{From: 1, To: 2}, {From: 3, To: 3}}}, {Kind: One, Set: a.Set, L: []Node{a}}, {Kind: One, Set: a.Set, Max: -1},
		seq(), seq(a), seq(a, empty), seq(a, seq(b, c)), alt(a), alt(a, alt(b, c)), {Kind: Seq, L: []Node{a, b}, Min: 1}, {Kind: Alt, L: []Node{a, b}, Name: "x"}, seq(a, Node{}),
		repeat(a, 0, 0, false), repeat(a, -1, 1, false), repeat(a, 2, 1, false), repeat(a, 51, -1, false), repeat(a, 0, 51, false), repeat(a, 0, -2, false), repeat(empty, 0, 1, false), {Kind: Repeat, Max: -1}, {Kind: Repeat, Max: 1, L: []Node{a, b}}, {Kind: Repeat, Max: 1, L: []Node{a}, Set: Any()},
		group("9", a), group("a-b", a), {Kind: Group}, {Kind: Group, L: []Node{a, b}}, {Kind: Group, L: []Node{a}, Max: 1}, groups(17), seq(group("x", a), group("x", b)), group("x", group("x", a)),
	} {
		if e := Check(n); e != api.ErrArg {
			t.Errorf("%+v: %d", n, e)
		}
		if s, e := Write(n); e != api.ErrArg || s != "" {
			t.Errorf("%+v: %s, %d", n, s, e)
		}
	}
	deep := repeat(Node{Kind: 77, L: []Node{chain(19)}}, 0, 0, false)
	for _, n := range []Node{chain(20), deep, groups(20)} {
		if e := Check(n); e != api.ErrDepth {
			t.Errorf("%+v: %d", n, e)
		}
	}
	wide := slices.Repeat([]Node{a}, 256)
	if e := Check(seq(wide...)); e != api.OK {
		t.Errorf("256 bytes: %d", e)
	}
	if s, e := Write(seq(append(wide, a)...)); e != api.ErrLimit || s != "" {
		t.Errorf("257 bytes: %s, %d", s, e)
	}
	if !runes.Same(Any(), runes.Set{{From: 10, To: 10}}.Not()) {
		t.Error("Any")
	}
}

// TestWrite covers P10.1 and P10.4: the text of each kind, which is parsed as the same node.
func TestWrite(t *testing.T) {
	set := func(l ...runes.Range) Node { return Node{Kind: One, Set: runes.Of(l...)} }
	for text, n := range map[string]Node{
		"": empty, "a|b*": alt(a, repeat(b, 0, -1, false)), "(?P<x>[^a-c]+?)$": seq(group("x", repeat(Node{Kind: One, Set: one('a', 'c').Set.Not()}, 1, -1, true)), Node{Kind: End}),
		".": {Kind: One, Set: Any()}, "^": {Kind: Begin}, "()": group("", empty), "a|": alt(a, empty), "||a": alt(empty, empty, a), "(?:a|b)c": seq(alt(a, b), c), "ab|c": alt(seq(a, b), c),
		"a?": repeat(a, 0, 1, false), "a+": repeat(a, 1, -1, false), "a{3}?": repeat(a, 3, 3, true), "a{1}": repeat(a, 1, 1, false), "a{2,}": repeat(a, 2, -1, false), "a{0,2}": repeat(a, 0, 2, false), "(?:ab)*": repeat(seq(a, b), 0, -1, false), "(?:a|b)*": repeat(alt(a, b), 0, -1, false), "(?:a*)??": repeat(repeat(a, 0, -1, false), 0, 1, true), "(a)*": repeat(group("", a), 0, -1, false),
		`[^\x{0}-\x{10ffff}]`: {Kind: One}, `[\x{0}-\x{10ffff}]`: set(runes.Range{To: runes.Max}), `\x{e9}`: one(0xe9, 0xe9), `\x{0}`: one(0, 0), `\x{7f}`: one(127, 127), `\x{d800}`: one(0xd800, 0xd800), "[a-cx]": set(runes.Range{From: 'a', To: 'c'}, runes.Range{From: 'x', To: 'x'}), "[a-b]": one('a', 'b'),
		`\$\(\)\*\+\-\.\?\[\\\]\^\{\|\}`: seq(one('$', '$'), one('(', '('), one(')', ')'), one('*', '*'), one('+', '+'), one('-', '-'), one('.', '.'), one('?', '?'), one('[', '['), one('\\', '\\'), one(']', ']'), one('^', '^'), one('{', '{'), one('|', '|'), one('}', '}')), `[\--\]]`: set(runes.Range{From: '-', To: ']'}),
		" !\"#%&',/:;<=>@~`_Z9": seqOf(" !\"#%&',/:;<=>@~`_Z9"),
	} {
		want := text
		if text == "(?P<x>[^a-c]+?)$" {
			want = `(?P<x>[\x{0}-` + "`" + `d-\x{10ffff}]+?)$`
		}
		if s, e := Write(n); e != api.OK || s != want {
			t.Errorf("%+v: %s, %d", n, s, e)
		}
		for _, s := range []string{text, want} {
			if got, at, e := Parse(s); e != api.OK || at != 0 || !Same(got, n) {
				t.Errorf("%s: %+v, %d, %d", s, got, at, e)
			}
		}
	}
}

// TestRunes covers P10.1 and P10.4: the text of each single rune up to 300.
func TestRunes(t *testing.T) {
	for r := range 300 {
		c := string(rune(r))
		want := "\\" + c
		switch {
		case r < 32 || r > 126:
			want = fmt.Sprintf("\\x{%x}", r)
		case strings.Contains("abcdefghijklmnopqrstuvwxyzABCDEFGHIJKLMNOPQRSTUVWXYZ0123456789_ !\"#%&',/:;<=>@~`", c):
			want = c
		}
		s, e := Write(one(r, r))
		n, _, f := Parse(s)
		if s != want || e != api.OK || f != api.OK || !Same(n, one(r, r)) {
			t.Errorf("%d: %s, %+v", r, s, n)
		}
		if n, _, e := Parse("\\" + c); (e == api.OK) != (r > 32 && r < 127 && (want != c || strings.Contains("_!\"#%&',/:;<=>@~`dwsDWSntr", c))) {
			t.Errorf("\\%s: %+v, %d", c, n, e)
		}
	}
}

func seqOf(s string) Node {
	var l []Node
	for _, r := range s {
		l = append(l, one(int(r), int(r)))
	}
	return seq(l...)
}

// TestParse covers P10.2: other texts of nodes.
func TestParse(t *testing.T) {
	digit, space := one('0', '9'), Node{Kind: One, Set: runes.Set{{From: 9, To: 10}, {From: 12, To: 13}, {From: 32, To: 32}}}
	word := Node{Kind: One, Set: runes.Set{{From: '0', To: '9'}, {From: 'A', To: 'Z'}, {From: '_', To: '_'}, {From: 'a', To: 'z'}}}
	not := func(n Node) Node { return Node{Kind: One, Set: n.Set.Not()} }
	for s, want := range map[string]Node{
		"(?:ab)c": seq(a, b, c), "a(?:)b": seq(a, b), "(?:a|b)|c": alt(a, b, c), "c|(?:a|b)": alt(c, a, b), "(?:)": empty, "(?:)(?:)": empty, "(?:(?:a))": a, "a(?:b(?:c))": seq(a, b, c), "(?:(?:a|b)(?:))|c": alt(a, b, c), "(?:a|b)": alt(a, b), "(?:|a)|": alt(empty, a, empty),
		`\d\w\s`: seq(digit, word, space), `\D\W\S`: seq(not(digit), not(word), not(space)), `\n\t\r`: seq(one(10, 10), one(9, 9), one(13, 13)), `[^\n]`: {Kind: One, Set: Any()}, `[\d_\-\x{41}-\x{43}]`: {Kind: One, Set: runes.Set{{From: '-', To: '-'}, {From: '0', To: '9'}, {From: 'A', To: 'C'}, {From: '_', To: '_'}}}, "[a-a]": a,
		`\_\!\~`: seqOf("_!~"), "}]": seqOf("}]"), "-,": seqOf("-,"), "é\u20ac\U0001F600\ufffd": seqOf("é\u20ac\U0001F600\ufffd"), `\x{1F600}`: one(0x1f600, 0x1f600), `\x{00004A}`: one('J', 'J'), "\x00\n": seqOf("\x00\n"), "[.*+?{}()|$]": {Kind: One, Set: runes.Of(runesOf(".*+?{}()|$")...)}, "[:é-ü]": {Kind: One, Set: runes.Set{{From: ':', To: ':'}, {From: 0xe9, To: 0xfc}}},
		"a{0,}": repeat(a, 0, -1, false), "a{1,}": repeat(a, 1, -1, false), "a{0,1}": repeat(a, 0, 1, false), "a{50,50}": repeat(a, 50, 50, false), "a{9,19}": repeat(a, 9, 19, false), "a*?": repeat(a, 0, -1, true), "a{2,3}?": repeat(a, 2, 3, true), "()*": repeat(group("", empty), 0, -1, false), "^*$+": seq(repeat(Node{Kind: Begin}, 0, -1, false), repeat(Node{Kind: End}, 1, -1, false)), "[^\\x{0}-\\x{10FFFF}]": {Kind: One},
	} {
		got, at, e := Parse(s)
		if e != api.OK || at != 0 || !Same(got, want) {
			t.Errorf("%s: %+v, %d, %d", s, got, at, e)
		}
	}
}

func runesOf(s string) []runes.Range {
	var l []runes.Range
	for _, r := range s {
		l = append(l, runes.Range{From: int(r), To: int(r)})
	}
	return l
}

// TestErrors covers P10.2: what cannot be parsed, and where it may be reported.
func TestErrors(t *testing.T) {
	nested := func(open, inside, close string, count int) string {
		return strings.Repeat(open, count) + inside + strings.Repeat(close, count)
	}
	bad := []string{
		"a**", "(", ")", "[]", "x{2,1}", `\q`, "a{0}", "a{0,0}", "a{51}", "a{1,51}", "a{01}", "a{,2}", "a{", "a{2", "a{2,", "a{x}", "a{ 1}", "{2}", "*", "+a", "?", "a|*", "(*)", "a+*", "a???", "a{2}{3}", "a{2}??", "(?:)*", "(?:(?:))?", "a)", "(a", "(?", "(?a)", "(?P<x)", "(?P<>a)", "(?P<9>a)", "(?P<x>a)(?P<x>b)", "(?P=x)", "(?<x>a)",
		"[", "[a", "[^", "[^]", "[^]]", "[a^]", "[^^]", "[-a]", "[a-]", "[a-\\d]", "[\\d-z]", "[b-a]", "[[]", "[a-b-c]", `[\`, `\`, `\x`, `\x{`, `\x{}`, `\x{110000}`, `\x{0000041}`, `\x{g}`, `\x{-1}`, `\x41`, `\é`, "\\\x1f", "\\ ", "\\\n", `\1`, `\b`, `\p`, "\xff", "a\xc3", "[\xff]", "[a-\xff]", "\xed\xa0\x80", "\\\x00",
		strings.Repeat("()", 17), nested("(", "", ")", 17), nested("(?:", "(", ")", 30),
	}
	for _, s := range bad {
		if n, at, e := Parse(s); e != api.ErrRegex || at < 0 || at > len(s) || !Same(n, Node{}) {
			t.Errorf("%q: %+v, %d, %d", s, n, at, e)
		}
	}
	for s, want := range map[string]api.Errno{
		strings.Repeat("a", 256): api.OK, strings.Repeat("a", 257): api.ErrLimit, strings.Repeat("(", 257): api.ErrLimit,
		nested("(?:", "a", ")", 20): api.OK, nested("(?:", "a", ")", 21): api.ErrDepth, nested("(?:", "", ")", 21): api.ErrDepth,
		nested("(?:", "a", ")*", 19): api.OK, nested("(?:", "a", ")*", 20): api.ErrDepth, nested("(", "a", ")*", 9): api.OK, nested("(", "a", ")*", 10): api.ErrDepth, nested("(", "a", ")", 16): api.OK, strings.Repeat("()", 16): api.OK, nested("(?:", "a", ")", 21) + "(": api.ErrRegex,
	} {
		if n, at, e := Parse(s); e != want || at != 0 && e != api.ErrRegex || e != api.OK && !Same(n, Node{}) {
			t.Errorf("%s: %+v, %d, %d", s, n, at, e)
		}
	}
}

// random returns a well-formed node.
func random(r *rand.Rand, deep int, kinds ...int) Node {
	if len(kinds) == 0 {
		kinds = []int{Empty, One, One, One, Seq, Seq, Alt, Repeat, Group, Begin, End}
	}
	kind := kinds[r.Intn(len(kinds))]
	if deep == 0 && kind != Begin && kind != End && (kind != Empty || !slices.Contains(kinds, Empty)) {
		kind = One
	}
	n := Node{Kind: kind}
	inside := func(kinds ...int) {
		n.L = append(n.L, random(r, deep-1, kinds...))
	}
	switch kind {
	case One:
		for range r.Intn(4) {
			from := []int{r.Intn(128), r.Intn(128), r.Intn(runes.Max)}[r.Intn(3)]
			n.Set = runes.Join(n.Set, runes.Of(runes.Range{From: from, To: from + r.Intn(3)}))
		}
		if r.Intn(5) == 0 {
			n.Set = n.Set.Not()
		}
	case Seq:
		for range 2 + r.Intn(3) {
			inside(One, Alt, Repeat, Group, Begin, End)
		}
	case Alt:
		for range 2 + r.Intn(3) {
			inside(Empty, One, Seq, Repeat, Group, Begin, End)
		}
	case Repeat:
		inside(One, Seq, Alt, Repeat, Group, Begin, End)
		n.Min, n.Max, n.Lazy = r.Intn(4), -1, r.Intn(2) == 0
		if r.Intn(2) == 0 {
			n.Max = max(1, n.Min+r.Intn(3))
		}
	case Group:
		inside()
		n.Name = []string{"", "", string(rune('a' + r.Intn(26)))}[r.Intn(3)]
	}
	return n
}

// TestRoundTrip covers P10.4: the texts of valid nodes are parsed as these nodes.
func TestRoundTrip(t *testing.T) {
	r := rand.New(rand.NewSource(10))
	valid := 0
	for range 5000 {
		n := random(r, r.Intn(5))
		text, e := Write(n)
		if e != api.OK {
			continue
		}
		valid++
		got, at, e := Parse(text)
		if e != api.OK || at != 0 || !Same(got, n) {
			t.Fatalf("%+v: %s, %+v, %d", n, text, got, e)
		}
	}
	if valid < 2000 {
		t.Errorf("%d valid nodes", valid)
	}
}

// TestNoise covers P10.5: any string is parsed as a valid node, or refused at one of its bytes.
func TestNoise(t *testing.T) {
	r := rand.New(rand.NewSource(11))
	pieces := []string{"a", "b", "-", "(", ")", "(?:", "(?P<", "x", ">", "[", "[^", "]", "{", "}", "1", "2", ",", "*", "+", "?", "|", "|", ".", "^", "$", "\\", "\\d", "\\W", "\\x{", "é", "\xff", "0"}
	parsed := 0
	for range 100000 {
		var text strings.Builder
		for range r.Intn(9) {
			text.WriteString(pieces[r.Intn(len(pieces))])
		}
		s := text.String()
		n, at, e := Parse(s)
		switch e {
		case api.OK:
			parsed++
			if f := Check(n); f != api.OK && f != api.ErrLimit {
				t.Fatalf("%q: %+v is not valid: %d", s, n, f)
			}
			if text, f := Write(n); f == api.OK {
				if again, _, g := Parse(text); g != api.OK || !Same(again, n) {
					t.Fatalf("%q: %q, %+v", s, text, again)
				}
			}
			if _, err := regexp.Compile(s); err != nil && utf8.ValidString(s) && !strings.Contains(s, "^*") && !strings.ContainsAny(s, "*+?}") {
				t.Fatalf("%q: %v", s, err)
			}
		case api.ErrRegex:
			if at < 0 || at > len(s) || !Same(n, Node{}) {
				t.Fatalf("%q: %+v, %d", s, n, at)
			}
		default:
			t.Fatalf("%q: %d", s, e)
		}
	}
	if parsed < 10000 {
		t.Errorf("%d parsed", parsed)
	}
}

// TestMemory covers P10.3: results share nothing with one another, and arguments are only read.
func TestMemory(t *testing.T) {
	n, _, _ := Parse(`\d\d`)
	n.L[0].Set[0].From = 99
	if n.L[1].Set[0].From != '0' {
		t.Error("two nodes share a set")
	}
	m, _, _ := Parse(`\d`)
	if m.Set[0].From != '0' {
		t.Error("two results share a set")
	}
	x := alt(seq(a, b), repeat(one('a', 'z'), 1, 2, false))
	y := alt(seq(a, b), repeat(one('a', 'z'), 1, 2, false))
	Check(x)
	Write(x)
	if !Same(x, y) {
		t.Errorf("%+v", x)
	}
}

// TestSame covers P10.1: every field counts.
func TestSame(t *testing.T) {
	base := repeat(group("x", a), 1, 2, false)
	if !Same(base, repeat(group("x", Node{Kind: One, Set: runes.Set{{From: 'a', To: 'a'}, {From: 3, To: 1}}}), 1, 2, false)) {
		t.Error("sets are compared by their runes")
	}
	for _, n := range []Node{repeat(group("x", a), 0, 2, false), repeat(group("x", a), 1, 3, false), repeat(group("x", a), 1, 2, true), repeat(group("y", a), 1, 2, false), repeat(group("x", b), 1, 2, false), repeat(a, 1, 2, false), {}, {Kind: Repeat, Min: 1, Max: 2, L: []Node{group("x", a), a}}} {
		if Same(base, n) || Same(n, base) {
			t.Errorf("%+v", n)
		}
	}
}
