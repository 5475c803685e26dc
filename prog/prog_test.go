package prog

import (
	"math/rand"
	"slices"
	"strings"
	"testing"

	"driftnet/api"
	"driftnet/rex"
	"driftnet/runes"
)

func parse(t *testing.T, s string) rex.Node {
	t.Helper()
	n, _, e := rex.Parse(s)
	if e != api.OK {
		t.Fatalf("%s: %d", s, e)
	}
	return n
}

func compile(t *testing.T, s string) Program {
	t.Helper()
	p, e := Compile(parse(t, s))
	if e != api.OK {
		t.Fatalf("%s: %d", s, e)
	}
	return p
}

// TestCompile covers P11.1: the program of each kind of node, as its text.
func TestCompile(t *testing.T) {
	for s, want := range map[string]string{
		"":            "0 done; start 0",
		"a|b":         "0 done; 1 rune 0; 2 rune 0; 3 split 2 1; start 3",
		"a|b|":        "0 done; 1 rune 0; 2 split 1 0; 3 rune 0; 4 split 3 2; start 4",
		"a*?":         "0 done; 1 split 0 2; 2 rune 1; start 1",
		"a*":          "0 done; 1 split 2 0; 2 rune 1; start 1",
		"(a)?":        "0 done; 1 mark 3 0; 2 rune 1; 3 mark 2 2; 4 split 3 0; start 4",
		"^a$":         "0 done; 1 end 0; 2 rune 1; 3 begin 2; start 3",
		"a+":          "0 done; 1 split 2 0; 2 rune 1; 3 rune 1; start 3",
		"a{2,}?":      "0 done; 1 split 0 2; 2 rune 1; 3 rune 1; 4 rune 3; start 4",
		"a{1,3}":      "0 done; 1 rune 0; 2 split 1 0; 3 rune 2; 4 split 3 0; 5 rune 4; start 5",
		"a{0,2}?":     "0 done; 1 rune 0; 2 split 0 1; 3 rune 2; 4 split 0 3; start 4",
		"a{2}":        "0 done; 1 rune 0; 2 rune 1; start 2",
		"(a)(b)":      "0 done; 1 mark 5 0; 2 rune 1; 3 mark 4 2; 4 mark 3 3; 5 rune 4; 6 mark 2 5; start 6",
		"((a)|(b))":   "0 done; 1 mark 3 0; 2 mark 7 1; 3 rune 2; 4 mark 6 3; 5 mark 5 1; 6 rune 5; 7 mark 4 6; 8 split 7 4; 9 mark 2 8; start 9",
		"(a)|(b)|(c)": "0 done; 1 mark 7 0; 2 rune 1; 3 mark 6 2; 4 mark 5 0; 5 rune 4; 6 mark 4 5; 7 split 6 3; 8 mark 3 0; 9 rune 8; 10 mark 2 9; 11 split 10 7; start 11",
		"(ab)(c)":     "0 done; 1 mark 5 0; 2 rune 1; 3 mark 4 2; 4 mark 3 3; 5 rune 4; 6 rune 5; 7 mark 2 6; start 7",
		"(a){2}":      "0 done; 1 mark 3 0; 2 rune 1; 3 mark 2 2; 4 mark 3 3; 5 rune 4; 6 mark 2 5; start 6",
		"()":          "0 done; 1 mark 3 0; 2 mark 2 1; start 2",
		"(?:|a)*":     "0 done; 1 split 3 0; 2 rune 1; 3 split 1 2; start 1",
		"(?:a?b){2}c": "0 done; 1 rune 0; 2 rune 1; 3 rune 2; 4 split 3 2; 5 rune 4; 6 rune 5; 7 split 6 5; start 7",
	} {
		p := compile(t, s)
		if got := strings.ReplaceAll(strings.TrimSuffix(p.Text(), "\n"), "\n", "; "); got != want {
			t.Errorf("%s: %s", s, got)
		}
	}
	p := compile(t, "(?P<x>[a-c])()(?P<y>(?P<z>.))")
	if !slices.Equal(p.Names, []string{"x", "", "y", "z"}) || !runes.Same(p.L[len(p.L)-2].Set, runes.Set{{From: 'a', To: 'c'}}) {
		t.Errorf("%+v", p)
	}
}

// nest returns a repetition within a repetition, and so on.
func nest(t *testing.T, times string, count int) rex.Node {
	t.Helper()
	return parse(t, strings.Repeat("(?:", count)+"a"+strings.Repeat(times+")", count)+times)
}

// TestErrors covers P11.1: nodes that are not valid, and programs that are too long.
func TestErrors(t *testing.T) {
	deep := parse(t, "a")
	for range 20 {
		deep = rex.Node{Kind: rex.Repeat, Max: -1, L: []rex.Node{deep}}
	}
	long, _, _ := rex.Parse(strings.Repeat(`\W`, 20))
	for _, c := range []struct {
		n rex.Node
		e api.Errno
	}{{rex.Node{}, api.ErrArg}, {deep, api.ErrDepth}, {long, api.ErrLimit}, {parse(t, "(?:a{40}){49}"), api.OK}, {parse(t, "(?:a{40}){49}a{39}"), api.OK}, {parse(t, "(?:a{40}){50}"), api.ErrLimit}, {nest(t, "{50}", 15), api.ErrLimit}, {nest(t, "{9,50}", 15), api.ErrLimit}, {nest(t, "{50,}?", 15), api.ErrLimit}} {
		p, e := Compile(c.n)
		if e != c.e || e != api.OK && (len(p.L) > 0 || p.Start != 0 || len(p.Names) > 0) {
			t.Errorf("%+v: %d", c.n, e)
		}
		if e == api.OK && len(p.L) > 2000 {
			t.Errorf("%d instructions", len(p.L))
		}
	}
	if p := compile(t, "(?:a{40}){49}a{39}"); len(p.L) != 2000 {
		t.Errorf("%d instructions", len(p.L))
	}
	if _, e := Compile(parse(t, "(?:a{40}){49}a{40}")); e != api.ErrLimit {
		t.Errorf("2001 instructions: %d", e)
	}
}

// TestText covers P11.2: also for instructions that no program has.
func TestText(t *testing.T) {
	p := Program{Start: -3, L: []Instr{{Op: 0, X: 5}, {Op: Done, X: 7}, {Op: Rune, X: -1, Y: 4}, {Op: Split, X: 12, Y: 34}, {Op: Mark, X: 5, N: 6}, {Op: Begin, X: 1}, {Op: End, X: 2}, {Op: 7}}}
	if s := p.Text(); s != "0 odd\n1 done\n2 rune -1\n3 split 12 34\n4 mark 6 5\n5 begin 1\n6 end 2\n7 odd\nstart -3\n" {
		t.Error(s)
	}
	if s := (Program{}).Text(); s != "start 0\n" {
		t.Error(s)
	}
}

// most is the bound of P11.5, without the one for Done.
func most(n rex.Node) int {
	inside := 0
	for _, x := range n.L {
		inside += most(x)
	}
	switch n.Kind {
	case rex.One, rex.Begin, rex.End:
		return 1
	case rex.Alt:
		return inside + len(n.L) - 1
	case rex.Group:
		return inside + 2
	case rex.Repeat:
		if n.Max == -1 {
			return inside*(n.Min+1) + 1
		}
		return inside*n.Max + n.Max - n.Min
	}
	return inside
}

// TestBounds covers P11.4 and P11.5 on many expressions.
func TestBounds(t *testing.T) {
	random := rand.New(rand.NewSource(11))
	pieces := []string{"a", "b", "(", ")", "(?:", ")", "*", "+?", "?", "{2,3}", "|", ".", "^", "$", "[a-c]", "{2}"}
	compiled := 0
	for range 50000 {
		var text strings.Builder
		for range random.Intn(10) {
			text.WriteString(pieces[random.Intn(len(pieces))])
		}
		n, _, e := rex.Parse(text.String())
		if e != api.OK {
			continue
		}
		compiled++
		p, e := Compile(n)
		if e != api.OK || len(p.L) > most(n)+1 {
			t.Fatalf("%s: %d, %d instructions", text.String(), e, len(p.L))
		}
		reached := map[int]bool{0: true}
		var visit func(i int)
		visit = func(i int) {
			if i < 0 || i >= len(p.L) || reached[i] {
				return
			}
			reached[i] = true
			visit(p.L[i].X)
			if p.L[i].Op == Split {
				visit(p.L[i].Y)
			}
		}
		visit(p.Start)
		for _, x := range p.L {
			if x.X < 0 || x.X >= len(p.L) || x.Y < 0 || x.Y >= len(p.L) {
				t.Fatalf("%s: %s", text.String(), p.Text())
			}
		}
		if len(reached) != len(p.L) {
			t.Fatalf("%s: %s", text.String(), p.Text())
		}
	}
	if compiled < 5000 {
		t.Errorf("%d compiled", compiled)
	}
}

// TestMemory covers P11.3: no two sets share memory, nor with the node.
func TestMemory(t *testing.T) {
	n := parse(t, "a{2}")
	p, _ := Compile(n)
	p.L[1].Set[0].From = 7
	if n.L[0].Set[0].From != 'a' || p.L[2].Set[0].From != 'a' {
		t.Error("sets share memory")
	}
}
