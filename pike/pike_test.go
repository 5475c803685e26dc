package pike

import (
	"math/rand"
	"regexp"
	"slices"
	"strings"
	"testing"

	"driftnet/api"
	"driftnet/prog"
	"driftnet/quote"
	"driftnet/rex"
)

func compile(t *testing.T, s string) *Re {
	t.Helper()
	r, at, e := New(s)
	if e != api.OK || at != 0 {
		t.Fatalf("%s: %d at %d", s, e, at)
	}
	return r
}

// TestNew covers P12.1: errors, groups, sizes, and expressions that are none.
func TestNew(t *testing.T) {
	for s, want := range map[string]api.Errno{"a**": api.ErrRegex, "(": api.ErrRegex, strings.Repeat("a", 257): api.ErrLimit, "(?:a{50}){50}": api.ErrLimit, strings.Repeat(`\W`, 20): api.ErrLimit, strings.Repeat("(?:", 21) + strings.Repeat(")", 21): api.ErrDepth} {
		r, at, e := New(s)
		if r != nil || e != want || at < 0 || at > len(s) || e != api.ErrRegex && at != 0 {
			t.Errorf("%s: %v, %d, %d", s, r, at, e)
		}
	}
	r := compile(t, "(?P<x>a)(b)(?P<y>c)")
	if !slices.Equal(r.Groups(), []string{"x", "", "y"}) || r.Size() != 10 {
		t.Errorf("%v, %d", r.Groups(), r.Size())
	}
	r.Groups()[0] = "changed"
	if r.Groups()[0] != "x" {
		t.Error("the names are shared")
	}
	for _, r := range []*Re{nil, {}} {
		l, ok := r.Parts("")
		if r.Is("") || r.Find("") || ok || len(l) > 0 || len(r.Groups()) > 0 || r.Size() != 0 || r.Steps("a") != 0 {
			t.Error("an expression that is none")
		}
	}
}

// TestExamples covers P12.2 and P12.3 by single cases.
func TestExamples(t *testing.T) {
	for _, c := range []struct {
		re, text string
		is, find bool
		parts    []Part
	}{
		{"a+", "baab", false, true, []Part{{1, 3}}},
		{"a+?", "baab", false, true, []Part{{1, 2}}},
		{"(a|ab)(c|bcd)?", "abcd", true, true, []Part{{0, 4}, {0, 1}, {1, 4}}},
		{"(x)?y", "y", true, true, []Part{{0, 1}, {-1, -1}}},
		{".", "\xff", true, true, []Part{{0, 1}}},
		{"", "", true, true, []Part{{0, 0}}},
		{"", "é", false, true, []Part{{0, 0}}},
		{".", "\n", false, false, nil},
		{"é$", "aé", false, true, []Part{{1, 3}}},
		{`\x{fffd}`, "\xff", true, true, []Part{{0, 1}}},
		{`\x{fffd}{3}`, "\xed\xa0\x80", true, true, []Part{{0, 3}}},
		{`\x{d800}`, "\xed\xa0\x80", false, false, nil},
		{"^a", "ba", false, false, nil},
		{"a$", "ab", false, false, nil},
		{"^$", "", true, true, []Part{{0, 0}}},
		{"(a)|(b)", "b", true, true, []Part{{0, 1}, {-1, -1}, {0, 1}}},
		{"(a)*", "aab", false, true, []Part{{0, 2}, {1, 2}}},
		{"a|ab", "ab", true, true, []Part{{0, 1}}},
		{"ab|a", "ab", true, true, []Part{{0, 2}}},
		{"(?:a*)*b", "aab", true, true, []Part{{0, 3}}},
		{"$", "ab", false, true, []Part{{2, 2}}},
		{"b*", "abb", false, true, []Part{{0, 0}}},
		{"[^\\x{0}-\\x{10ffff}]", "a", false, false, nil},
		{"(a{2}){2}", "aaaaa", false, true, []Part{{0, 4}, {2, 4}}},
	} {
		r := compile(t, c.re)
		l, ok := r.Parts(c.text)
		if r.Is(c.text) != c.is || r.Find(c.text) != c.find || ok != c.find || !slices.Equal(l, c.parts) {
			t.Errorf("%s in %q: %v, %v, %v", c.re, c.text, r.Is(c.text), r.Find(c.text), l)
		}
	}
}

// language returns the ends of the parts of the text from a position on that are in the language of a node, by its definition.
func language(n rex.Node, text string, from int) map[int]bool {
	out := map[int]bool{}
	switch n.Kind {
	case rex.Empty:
		out[from] = true
	case rex.One:
		if r, size := quote.Decode(text[from:]); size > 0 && n.Set.Has(int(r)) {
			out[from+size] = true
		}
	case rex.Begin:
		if from == 0 {
			out[from] = true
		}
	case rex.End:
		if from == len(text) {
			out[from] = true
		}
	case rex.Seq:
		out[from] = true
		for _, x := range n.L {
			out = after(x, text, out)
		}
	case rex.Alt:
		for _, x := range n.L {
			for to := range language(x, text, from) {
				out[to] = true
			}
		}
	case rex.Group:
		return language(n.L[0], text, from)
	case rex.Repeat:
		ends := map[int]bool{from: true}
		for i := 0; i <= n.Max || n.Max == -1 && i <= n.Min+len(text)+1; i++ {
			if i >= n.Min {
				for to := range ends {
					out[to] = true
				}
			}
			ends = after(n.L[0], text, ends)
		}
	}
	return out
}

func after(n rex.Node, text string, starts map[int]bool) map[int]bool {
	out := map[int]bool{}
	for from := range starts {
		for to := range language(n, text, from) {
			out[to] = true
		}
	}
	return out
}

// backtrack tries a program at a position, by the definition; it returns the marks.
func backtrack(p prog.Program, text string, from int) ([]int, bool) {
	type state struct{ at, position int }
	executed := map[state]bool{}
	marks := slices.Repeat([]int{-1}, 2*len(p.Names)+2)
	marks[0] = from
	var run func(at, position int) bool
	run = func(at, position int) bool {
		if executed[state{at, position}] {
			return false
		}
		executed[state{at, position}] = true
		switch x := p.L[at]; x.Op {
		case prog.Rune:
			r, size := quote.Decode(text[position:])
			return size > 0 && x.Set.Has(int(r)) && run(x.X, position+size)
		case prog.Split:
			return run(x.X, position) || run(x.Y, position)
		case prog.Mark:
			old := marks[x.N]
			marks[x.N] = position
			if run(x.X, position) {
				return true
			}
			marks[x.N] = old
			return false
		case prog.Begin:
			return position == 0 && run(x.X, position)
		case prog.End:
			return position == len(text) && run(x.X, position)
		}
		marks[1] = position
		return true
	}
	return marks, run(p.Start, from)
}

func noise(random *rand.Rand, pieces []string, most int) string {
	var text strings.Builder
	for range random.Intn(most) {
		text.WriteString(pieces[random.Intn(len(pieces))])
	}
	return text.String()
}

// TestNoise covers P12.2 to P12.7: all methods agree with the definitions, for many expressions and texts.
func TestNoise(t *testing.T) {
	random := rand.New(rand.NewSource(12))
	expressions := []string{"a", "b", "(", ")", "(?:", ")", "*", "+", "?", "*?", "{2}", "{1,2}", "|", ".", "^", "$", "[ab]", "é", "()"}
	texts := []string{"a", "b", "a", "b", "é", "\xff"}
	tried := 0
	for tried < 12000 {
		s := noise(random, expressions, 10)
		n, _, e := rex.Parse(s)
		if e != api.OK {
			continue
		}
		tried++
		r := compile(t, s)
		p, _ := prog.Compile(n)
		for range 4 {
			checkText(t, s, r, n, p, noise(random, texts, 6))
		}
	}
}

func checkText(t *testing.T, s string, r *Re, n rex.Node, p prog.Program, text string) {
	t.Helper()
	positions := []int{}
	for at := 0; at < len(text); {
		positions = append(positions, at)
		_, size := quote.Decode(text[at:])
		at += size
	}
	positions = append(positions, len(text))
	first := -1
	for _, at := range positions {
		if len(language(n, text, at)) > 0 {
			first = at
			break
		}
	}
	if r.Is(text) != language(n, text, 0)[len(text)] {
		t.Fatalf("%s, %q: Is %v", s, text, r.Is(text))
	}
	l, ok := r.Parts(text)
	if r.Find(text) != (first >= 0) || ok != (first >= 0) {
		t.Fatalf("%s, %q: Find %v, Parts %v", s, text, r.Find(text), l)
	}
	if steps := r.Steps(text); steps > r.Size()*len(positions) || steps < 1 {
		t.Fatalf("%s, %q: %d steps", s, text, steps)
	}
	if !ok {
		return
	}
	if l[0].From != first || !language(n, text, first)[l[0].To] {
		t.Fatalf("%s, %q: %v", s, text, l)
	}
	marks, found := backtrack(p, text, first)
	if !found || len(l) != len(p.Names)+1 {
		t.Fatalf("%s, %q: %v", s, text, l)
	}
	for i, part := range l {
		if part.From != marks[2*i] || part.To != marks[2*i+1] {
			t.Fatalf("%s, %q: %v, not %v", s, text, l, marks)
		}
		if part.From >= 0 && (part.From < l[0].From || part.To > l[0].To || part.From > part.To) {
			t.Fatalf("%s, %q: %v", s, text, l)
		}
	}
}

// TestLibrary covers P12.2 and P12.3: expressions whose repetitions are not empty are matched as the library does.
func TestLibrary(t *testing.T) {
	for _, s := range []string{`(\w+)=(\d+|"[^"]*")`, `^(?P<ip>[\d.]+) - (\S+)`, "(a|b)*?c{2,3}(d?)", `(é|\w)+$`, "a(b|)(c)?", `[^a-c\s]{2}(x|y|z)?`} {
		r, want := compile(t, s), regexp.MustCompile(s)
		for _, text := range []string{"ms=5 lvl=\"x y\"", "1.2.3.4 - bob x", "abacccd", "xéa", "ac", "abc", "zzx q", "", "\xffé"} {
			l, _ := r.Parts(text)
			var flat []int
			for _, part := range l {
				flat = append(flat, part.From, part.To)
			}
			if !slices.Equal(flat, want.FindStringSubmatchIndex(text)) {
				t.Errorf("%s, %q: %v", s, text, l)
			}
		}
	}
}

// TestLong covers P12.6: the number of steps does not explode.
func TestLong(t *testing.T) {
	text := strings.Repeat("a", 5000)
	for _, s := range []string{"(?:a*)*b", "(?:a|a|a)*c", "(?:a?){50}d", "(a*)(a*)(a*)(a*)(a*)(a*)e"} {
		r := compile(t, s)
		if _, ok := r.Parts(text); ok || r.Find(text) || r.Is(text) || r.Steps(text) > r.Size()*5001 {
			t.Errorf("%s: %d steps", s, r.Steps(text))
		}
	}
}
