package filter

import (
	"math/rand"
	"regexp"
	"strconv"
	"strings"
	"testing"

	"driftnet/api"
	"driftnet/labels"
	"driftnet/rat"
	"driftnet/sample"
)

func text(name string, op int, text string) api.Cond {
	return api.Cond{Kind: api.CondText, Name: name, Op: op, Text: text}
}

func measure1(kind int, name string, op int, v string) api.Cond {
	r, _ := rat.Read(v)
	return api.Cond{Kind: kind, Name: name, Op: op, V: r}
}

func both(kind int, a, b api.Cond) api.Cond {
	return api.Cond{Kind: kind, L: []api.Cond{a, b}}
}

// TestLine covers P24.1: which lines pass, and which stages are none.
func TestLine(t *testing.T) {
	for _, c := range []struct {
		kind       int
		text, line string
		want       bool
	}{
		{1, "err", "an error", true}, {2, "err", "an error", false}, {3, "e.r", "an error", true}, {4, "^e", "an error", true}, {1, "", "", true}, {2, "", "x", false}, {1, "\xff", "a\xffb", true}, {1, "E", "e", false}, {1, "e.r", "err", false}, {3, "^$", "", true}, {3, "x", "", false}, {4, "", "x", false}, {1, "(", "(", true},
	} {
		l, e := NewLine(api.Stage{Kind: c.kind, Text: c.text, Name: "ignored"})
		if e != api.OK || l.Fits(c.line) != c.want {
			t.Errorf("%d %s, %q: %d", c.kind, c.text, c.line, e)
		}
	}
	for _, c := range []struct {
		s api.Stage
		e api.Errno
	}{{api.Stage{}, api.ErrArg}, {api.Stage{Kind: 5}, api.ErrArg}, {api.Stage{Kind: -1, Text: "("}, api.ErrArg}, {api.Stage{Kind: 3, Text: "("}, api.ErrRegex}, {api.Stage{Kind: 4, Text: "*"}, api.ErrRegex}, {api.Stage{Kind: 3, Text: strings.Repeat("a", 257)}, api.ErrRegex}, {api.Stage{Kind: 4, Text: "(?:a{50}){50}"}, api.ErrRegex}} {
		if l, e := NewLine(c.s); l != nil || e != c.e {
			t.Errorf("%v: %d", c.s, e)
		}
	}
	for _, l := range []*Line{nil, {}} {
		if l.Fits("") {
			t.Error("a filter that is none")
		}
	}
}

// TestCond covers P24.2: the values of conditions.
func TestCond(t *testing.T) {
	ms := measure1(api.CondNumber, "ms", api.OpGt, "100")
	for _, c := range []struct {
		c            api.Cond
		l            []api.Label
		fits, faulty bool
	}{
		{ms, sample.Labels("ms", "250"), true, false}, {ms, sample.Labels("ms", "x"), true, true}, {ms, nil, false, false}, {ms, sample.Labels("ms", "100"), false, false}, {ms, sample.Labels("ms", "100.1"), true, false}, {ms, sample.Labels("ms", ""), false, false}, {ms, sample.Labels("ms", "5s"), true, true}, {ms, sample.Labels("ms", "-250"), false, false}, {ms, sample.Labels("ms", "1000", "ms", "x"), true, false},
		{measure1(api.CondTime, "d", api.OpGe, "1500"), sample.Labels("d", "1500ms"), true, false}, {measure1(api.CondTime, "d", api.OpGe, "1500"), sample.Labels("d", "1.5s"), true, false}, {measure1(api.CondTime, "d", api.OpGe, "1500"), sample.Labels("d", "2"), true, true}, {measure1(api.CondTime, "d", api.OpLt, "0"), sample.Labels("d", "-1ns"), true, false},
		{measure1(api.CondSize, "size", api.OpLt, "2000"), sample.Labels("size", "1.9KB"), true, false}, {measure1(api.CondSize, "size", api.OpLt, "2000"), sample.Labels("size", "2KiB"), false, false}, {measure1(api.CondSize, "size", api.OpLt, "2000"), sample.Labels("size", "2kb"), true, true}, {measure1(api.CondNumber, "v", api.OpEq, "-1/3"), sample.Labels("v", "0"), false, false},
		{both(api.CondAnd, ms, text("job", 1, "a")), sample.Labels("job", "a", "ms", "x"), true, true}, {both(api.CondOr, ms, text("job", 1, "a")), sample.Labels("job", "a", "ms", "x"), true, false}, {both(api.CondAnd, ms, text("job", 1, "b")), sample.Labels("job", "a", "ms", "x"), false, false}, {both(api.CondOr, ms, text("job", 1, "b")), sample.Labels("job", "a", "ms", "x"), true, true}, {both(api.CondOr, text("job", 1, "b"), ms), nil, false, false},
		{text("a", 1, "x"), sample.Labels("a", "x"), true, false}, {text("a", 1, ""), nil, true, false}, {text("a", 2, ""), nil, false, false}, {text("a", 2, "x"), sample.Labels("a", "y"), true, false}, {text("a", 3, "x+"), sample.Labels("a", "xx"), true, false}, {text("a", 3, "x+"), sample.Labels("a", "xxy"), false, false}, {text("a", 3, ".*"), nil, true, false}, {text("a", 4, "x+"), sample.Labels("a", "xxy"), true, false}, {text("a", 4, ".*"), nil, false, false}, {text("", 1, "("), sample.Labels("", "("), true, false},
	} {
		x, e := NewCond(c.c)
		if fits, faulty := x.Fits(c.l); e != api.OK || fits != c.fits || faulty != c.faulty {
			t.Errorf("%+v, %v: %v, %v, %d", c.c, c.l, fits, faulty, e)
		}
	}
	for _, x := range []*Cond{nil, {}} {
		if fits, faulty := x.Fits(nil); fits || faulty {
			t.Error("a condition that is none")
		}
	}
}

// TestErrors covers P24.2: conditions that are not valid.
func TestErrors(t *testing.T) {
	good, noArg, noPattern := text("a", 1, ""), api.Cond{}, text("a", 3, "(")
	deep := good
	for range 19 {
		deep = both(api.CondAnd, deep, good)
	}
	bad := text("a", 3, "(")
	for range 20 {
		bad = both(0, bad, good)
	}
	for i, c := range []struct {
		c api.Cond
		e api.Errno
	}{
		{deep, api.OK}, {both(api.CondAnd, good, deep), api.ErrDepth}, {bad, api.ErrDepth},
		{noArg, api.ErrArg}, {api.Cond{Kind: 7, Op: 1}, api.ErrArg}, {text("a", 0, ""), api.ErrArg}, {text("a", 5, ""), api.ErrArg}, {measure1(2, "a", 4, "1"), api.ErrArg}, {measure1(3, "a", 11, "1"), api.ErrArg}, {api.Cond{Kind: 4, Op: 5}, api.ErrArg}, {api.Cond{Kind: 2, Op: 5, V: api.Rat{Num: make([]uint32, 20), Den: []uint32{1}}}, api.ErrArg}, {api.Cond{Kind: 2, Op: 5, V: api.Rat{Num: []uint32{2}, Den: []uint32{2}}}, api.ErrArg},
		{noPattern, api.ErrRegex}, {text("a", 4, "a**"), api.ErrRegex}, {text("a", 4, strings.Repeat("x", 300)), api.ErrRegex}, {text("a", 2, "("), api.OK},
		{api.Cond{Kind: 5}, api.ErrArg}, {api.Cond{Kind: 6, L: []api.Cond{good}}, api.ErrArg}, {api.Cond{Kind: 6, L: []api.Cond{noPattern, good, good}}, api.ErrArg}, {both(5, noArg, noPattern), api.ErrArg}, {both(6, noPattern, noArg), api.ErrRegex}, {both(5, both(6, good, noPattern), noArg), api.ErrRegex}, {both(5, good, noArg), api.ErrArg},
		{api.Cond{Kind: 1, Op: 1, V: api.Rat{Neg: true}, L: []api.Cond{noArg}}, api.OK}, {api.Cond{Kind: 2, Op: 5, V: rat.Of(-1), Text: "(", Name: "9"}, api.OK}, {api.Cond{Kind: 5, Op: 99, Text: "(", L: []api.Cond{good, good}}, api.OK},
	} {
		if x, e := NewCond(c.c); e != c.e || (x == nil) != (e != api.OK) {
			t.Errorf("%d: %+v: %d", i, c.c, e)
		}
	}
}

// TestMemory covers P24.3: arguments are not retained.
func TestMemory(t *testing.T) {
	c := measure1(api.CondNumber, "a", api.OpEq, "7")
	x, _ := NewCond(both(api.CondAnd, c, c))
	c.V.Num[0] = 8
	if fits, _ := x.Fits(sample.Labels("a", "7")); !fits {
		t.Error("the number was retained")
	}
}

// value returns the value of a condition: 0 for No, 1 for Wrong, 2 for Yes.
func value(t *testing.T, c api.Cond, l []api.Label) int {
	t.Helper()
	x, e := NewCond(c)
	if e != api.OK {
		t.Fatalf("%+v: %d", c, e)
	}
	switch fits, faulty := x.Fits(l); {
	case faulty && fits:
		return 1
	case fits:
		return 2
	case faulty:
		t.Fatalf("%+v: faulty, but does not pass", c)
	}
	return 0
}

// TestLaws covers P24.4, P24.5 and P24.6.
func TestLaws(t *testing.T) {
	random := rand.New(rand.NewSource(24))
	var any func(deep int) api.Cond
	any = func(deep int) api.Cond {
		if deep > 0 && random.Intn(2) == 0 {
			return both(5+random.Intn(2), any(deep-1), any(deep-1))
		}
		name := string(rune('a' + random.Intn(3)))
		if random.Intn(2) == 0 {
			return text(name, 1+random.Intn(4), []string{"", "1", "x|1", "y"}[random.Intn(4)])
		}
		return measure1(2+random.Intn(3), name, 5+random.Intn(6), strconv.Itoa(random.Intn(3)))
	}
	for range 5000 {
		var l []api.Label
		for _, name := range []string{"a", "b", "c"} {
			l = labels.Set(l, name, []string{"", "1", "2", "x", "1ms", "2B"}[random.Intn(6)])
		}
		one, other := any(2), any(2)
		v, w := value(t, one, l), value(t, other, l)
		for c, want := range map[*api.Cond]int{ref(both(5, one, other)): min(v, w), ref(both(5, other, one)): min(v, w), ref(both(6, one, other)): max(v, w), ref(both(6, other, one)): max(v, w), ref(both(5, one, one)): v, ref(both(6, one, one)): v, ref(both(5, one, both(6, one, other))): v, ref(both(6, one, both(5, one, other))): v} {
			if got := value(t, *c, l); got != want {
				t.Fatalf("%+v, %v: %d, not %d", c, l, got, want)
			}
		}
		if value(t, one, labels.Set(l, "zz", "5")) != v {
			t.Fatalf("%+v: a label that does not occur matters", one)
		}
		a, b := random.Intn(5), strconv.Itoa(random.Intn(5))
		n := []api.Label{{Name: "n", Value: strconv.Itoa(a)}}
		var holds [11]bool
		for op := 5; op <= 10; op++ {
			holds[op] = value(t, measure1(2, "n", op, b), n) == 2
		}
		order := strings.Compare(n[0].Value, b)
		if holds[5] != (order == 0) || holds[7] != (order < 0) || holds[9] != (order > 0) || holds[6] == holds[5] || holds[8] == holds[9] || holds[10] == holds[7] {
			t.Fatalf("%d, %s: %v", a, b, holds)
		}
	}
	for _, s := range []string{"", "a", "a.b", "^x", "b$", "[0-9]+"} {
		for _, line := range []string{"", "a", "axb", "x1", "a.b"} {
			var passes [5]bool
			for kind := 1; kind <= 4; kind++ {
				l, _ := NewLine(api.Stage{Kind: kind, Text: s})
				passes[kind] = l.Fits(line)
			}
			if passes[1] != strings.Contains(line, s) || passes[2] == passes[1] || passes[3] != regexp.MustCompile(s).MatchString(line) || passes[4] == passes[3] {
				t.Errorf("%q, %q: %v", s, line, passes)
			}
		}
	}
}

func ref(c api.Cond) *api.Cond { return &c }
