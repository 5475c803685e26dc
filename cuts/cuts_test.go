package cuts

import (
	"math/rand"
	"slices"
	"strings"
	"testing"

	"driftnet/api"
	"driftnet/labels"
)

// TestNew covers P18.1: valid patterns and the names of their captures.
func TestNew(t *testing.T) {
	long := strings.Repeat("n", 64)
	for pattern, names := range map[string]string{
		`<ip> - <_> "<m> <p>"`: "ip m p", "a<x>": "x", "<x>": "x", "<_> <x> <_> <_>": "x", "<<x>>": "x", "<9><x>": "x", "<x><": "x", "<x><y": "x", "<><x>": "x", "<x> <a-b> <y>": "x y", "<__>": "__", "<" + long + ">": long, "<x><" + long + "n>": "x", "<_>\xff<x>": "x", strings.Repeat("-", 253) + "<x>": "x", "<x>\n<X>": "x X",
	} {
		c, e := New(pattern)
		if e != api.OK || strings.Join(c.Names(), " ") != names {
			t.Errorf("%s: %v, %d", pattern, c.Names(), e)
		}
	}
	for _, pattern := range []string{"", "abc", "<x><y>", "<x> <x>", "<_>", "<_> <_>", "<9>", "<_><x>", "<x><_>", "<x> <y><z>", "<>", "<x", "x>", "< x>", strings.Repeat("-", 254) + "<x>", "<x> <y> <x>", "<" + long + "n>"} {
		if c, e := New(pattern); e != api.ErrPattern || c != nil {
			t.Errorf("%s: %v, %d", pattern, c, e)
		}
	}
}

// TestMatch covers P18.2: the captures of lines.
func TestMatch(t *testing.T) {
	for _, c := range []struct {
		pattern, line, want string
		ok                  bool
	}{
		{`<ip> - <_> "<m> <p>"`, `1.2 - bob "GET /x" 200`, `{ip="1.2", m="GET", p="/x"}`, true},
		{"a<x>", "abc", `{x="bc"}`, true}, {"a<x>", "a", "{}", true}, {"a<x>", "b", "{}", false}, {"a<x>", "", "{}", false}, {"<x>", "", "{}", true}, {"<x>", "a\nb", `{x="a\nb"}`, true},
		{"<x> <y>", "1 2 3", `{x="1", y="2 3"}`, true}, {"<y> <x> ", "1 2 3", `{x="2", y="1"}`, true}, {"<y> <x> ", "1 2", "{}", false}, {"<x>--<y>", "---", `{y="-"}`, true}, {"<x>, <_>, <y>", ", , ", "{}", true}, {"<x>b", "abb", `{x="a"}`, true}, {"<x>b", "b", "{}", true}, {"<x>b", "a", "{}", false}, {"[<x>] <_>", "[i] rest", `{x="i"}`, true}, {"<<x>>", "<i>!", `{x="i"}`, true}, {"<9><x>", "<9>i", `{x="i"}`, true}, {"<x>\xff", "é\xff", `{x="é"}`, true}, {"<b>=<a>", "1=2=3", `{a="2=3", b="1"}`, true},
	} {
		x, e := New(c.pattern)
		l, ok := x.Match(c.line)
		if e != api.OK || ok != c.ok || labels.Text(l) != c.want {
			t.Errorf("%s, %q: %v, %v", c.pattern, c.line, l, ok)
		}
	}
	for _, c := range []*Cuts{nil, {}} {
		l, ok := c.Match("a")
		if len(c.Names()) > 0 || len(l) > 0 || ok {
			t.Error("a pattern that is none")
		}
	}
	x, _ := New("<x> <y>")
	x.Names()[0] = "changed"
	if !slices.Equal(x.Names(), []string{"x", "y"}) {
		t.Error("the names are shared")
	}
}

// TestLaws covers P18.3 and P18.4: captures are what a line was made of.
func TestLaws(t *testing.T) {
	random := rand.New(rand.NewSource(18))
	literals := []string{" ", "--", "ab", ", ", "]", "aa"}
	values := []string{"", "x", "xy", "-", "a", "é", "b", "\""}
	for range 20000 {
		pattern, line := "", ""
		if random.Intn(2) == 0 {
			pattern, line = "start ", "start "
		}
		var want []api.Label
		good := true
		count := 1 + random.Intn(4)
		for i := range count {
			name := string(rune('d' - i))
			value, literal := values[random.Intn(len(values))], literals[random.Intn(len(literals))]
			if i == count-1 && random.Intn(2) == 0 {
				literal = ""
			}
			good = good && (literal == "" || strings.Index(value+literal, literal) == len(value))
			pattern += "<" + name + ">" + literal
			line += value + literal
			want = labels.Set(want, name, value)
		}
		c, e := New(pattern)
		if e != api.OK {
			t.Fatalf("%s: %d", pattern, e)
		}
		l, ok := c.Match(line)
		if good && (!ok || !labels.Same(l, want)) {
			t.Fatalf("%s, %s: %v", pattern, line, l)
		}
		if !ok {
			continue
		}
		back := pattern
		for _, name := range c.Names() {
			back = strings.Replace(back, "<"+name+">", labels.Get(l, name), 1)
		}
		if !strings.HasPrefix(line, back) {
			t.Fatalf("%s, %s: %s", pattern, line, back)
		}
	}
}
