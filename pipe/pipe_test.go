package pipe

import (
	"math/rand"
	"slices"
	"strconv"
	"strings"
	"testing"

	"driftnet/api"
	"driftnet/labels"
	"driftnet/rat"
	"driftnet/sample"
)

func text(kind int, s string) api.Stage      { return api.Stage{Kind: kind, Text: s} }
func named(kind int, name string) api.Stage  { return api.Stage{Kind: kind, Name: name} }
func format(name, template string) api.Stage { return api.Stage{Kind: 11, Name: name, Text: template} }
func cond(c api.Cond) api.Stage              { return api.Stage{Kind: 9, Cond: c} }
func greater(name string, bound int) api.Cond {
	return api.Cond{Kind: 2, Name: name, Op: api.OpGt, V: rat.Of(bound)}
}
func is(name, value string) api.Cond    { return api.Cond{Kind: 1, Name: name, Op: 1, Text: value} }
func stages(l ...api.Stage) []api.Stage { return l }
func kind(k int) api.Stage              { return api.Stage{Kind: k} }
func sameOut(a, b Out) bool {
	return a.Line == b.Line && labels.Same(a.Labels, b.Labels) && rat.Same(a.V, b.V) && a.Has == b.Has
}

func run(t *testing.T, l []api.Stage, stream []api.Label, line string) (Out, bool) {
	t.Helper()
	p, e := New(l)
	if e != api.OK {
		t.Fatalf("%+v: %d", l, e)
	}
	return p.Run(stream, line)
}

// TestRun covers P25.2: the effect of each stage.
func TestRun(t *testing.T) {
	long := strings.Repeat("n", 64)
	for i, c := range []struct {
		l      []api.Stage
		stream []api.Label
		line   string
		want   string // the line, the labels and the number
	}{
		{nil, sample.Labels("a", "x"), "line", `line {a="x"}`},
		{nil, sample.Labels("b", "1", "a", "2"), "line", "line {}"},
		{nil, sample.Labels("a", ""), "line", "line {}"},
		{stages(kind(5), cond(greater("ms", 5))), sample.Labels("a", "x"), "a=1 ms=7", `a=1 ms=7 {a="x", a_extracted="1", ms="7"}`},
		{stages(kind(6)), nil, "hi", `hi {__error__="JSONErr"}`},
		{stages(kind(5), named(14, "d")), nil, "d=2s", "d=2s {} 2000"},
		{stages(text(7, "<v> <_>"), text(10, "{{.v}}!")), nil, "go on now", `go! {v="go"}`},
		{stages(kind(5)), sample.Labels("a", "x"), "b=1 =", `b=1 = {__error__="LogfmtErr", a="x"}`},
		{stages(kind(5), kind(6)), nil, "=", `= {__error__="LogfmtErr"}`},
		{stages(kind(6), kind(5)), nil, "a=1", `a=1 {__error__="JSONErr", a="1"}`},
		{stages(kind(6)), sample.Labels("a", "x"), `{"a":"y","b":{"c":1}}`, `{"a":"y","b":{"c":1}} {a="x", a_extracted="y", b_c="1"}`},
		{stages(kind(5)), sample.Labels("__error__", "x"), "__error__=y b=1", `__error__=y b=1 {__error__="x", b="1"}`},
		{stages(kind(5)), nil, "__error__=y", "__error__=y {}"},
		{stages(kind(5)), sample.Labels(long, "x"), long + "=1", long + "=1 {" + long + `="1"}`},
		{stages(kind(5)), sample.Labels("a", "x", "a_extracted", "z"), "a=1 a_extracted=2", `a=1 a_extracted=2 {a="x", a_extracted="1", a_extracted_extracted="2"}`},
		{stages(kind(5), text(10, "b=2 c=3"), kind(5)), nil, "b=1", `b=2 c=3 {b="2", c="3"}`},
		{stages(named(12, "a"), kind(5)), sample.Labels("a", "x"), "a=1", `a=1 {a_extracted="1"}`},
		{stages(text(7, "<a>-<b>")), sample.Labels("a", "x"), "1-2", `1-2 {a="x", a_extracted="1", b="2"}`},
		{stages(text(7, "<a>-<b>")), nil, "nothing", "nothing {}"},
		{stages(text(8, "(?P<k>[a-z]+)(?P<v>[0-9]*)(x)?(?P<z>y)?")), sample.Labels("k", "s"), "  ab12", `  ab12 {k="s", k_extracted="ab", v="12"}`},
		{stages(format("v", "old"), text(8, "(?P<v>[0-9]*)(?P<w>z)?")), nil, "", " {}"},
		{stages(format("w", "old"), text(8, "(?P<v>[0-9]*)(?P<w>z)?")), nil, "1", `1 {v="1", w="old"}`},
		{stages(text(8, "(?P<v>q)")), nil, "a", "a {}"},
		{stages(text(8, "(a)")), nil, "a", "a {}"},
		{stages(text(8, "(?P<__error__>a)")), nil, "a", "a {}"},
		{stages(cond(greater("ms", 5))), sample.Labels("ms", "x"), "", ` {__error__="CondErr", ms="x"}`},
		{stages(kind(6), cond(greater("ms", 5))), sample.Labels("ms", "x"), "", ` {__error__="JSONErr", ms="x"}`},
		{stages(cond(is("__error__", "")), cond(greater("ms", 5)), cond(is("__error__", "CondErr"))), sample.Labels("ms", "x"), "", ` {__error__="CondErr", ms="x"}`},
		{stages(format("a", "{{.b}}-{{__line__}}")), sample.Labels("b", "1"), "l", `l {a="1-l", b="1"}`},
		{stages(format("a", "{{.b}}")), sample.Labels("a", "1"), "l", "l {}"},
		{stages(named(12, "a"), named(12, "z")), sample.Labels("a", "1", "b", "2"), "l", `l {b="2"}`},
		{stages(named(13, "v")), sample.Labels("v", "1.5"), "l", "l {} 3/2"},
		{stages(named(15, "v")), sample.Labels("v", "2KB"), "l", "l {} 2000"},
		{stages(named(13, "v")), nil, "l", "l {}"},
		{stages(named(13, "v")), sample.Labels("v", "2s"), "l", `l {__error__="UnwrapErr"}`},
		{stages(named(13, "v"), named(13, "w")), sample.Labels("v", "1", "w", "2"), "l", "l {} 2"},
		{stages(named(13, "v"), named(13, "w")), sample.Labels("v", "1"), "l", "l {}"},
		{stages(named(13, "v"), named(13, "w")), sample.Labels("v", "1", "w", "x"), "l", `l {__error__="UnwrapErr"}`},
		{stages(kind(6), named(13, "__error__")), nil, "l", `l {__error__="UnwrapErr"}`},
		{stages(format("__error__", "5"), named(13, "__error__")), nil, "l", "l {} 5"},
		{stages(kind(6), format("__error__", "mine"), kind(6)), nil, "l", `l {__error__="mine"}`},
		{stages(kind(6), named(12, "__error__")), nil, "l", "l {}"},
		{stages(kind(6), named(13, "v")), sample.Labels("v", "x"), "l", `l {__error__="JSONErr"}`},
		{stages(text(1, "a"), text(2, "b"), text(3, "^a"), text(4, "z$")), nil, "aa", "aa {}"},
		{stages(text(10, "{{__line__ | upper}}"), text(1, "A")), nil, "aa", "AA {}"},
		{stages(text(1, "b")), nil, "aa", ""},
		{stages(text(2, "a")), nil, "aa", ""},
		{stages(text(3, "b")), nil, "aa", ""},
		{stages(text(4, "a")), nil, "aa", ""},
		{stages(cond(greater("ms", 5))), sample.Labels("ms", "5"), "", ""},
		{stages(cond(greater("ms", 5))), nil, "", ""},
	} {
		out, ok := run(t, c.l, c.stream, c.line)
		got := ""
		if ok {
			got = out.Line + " " + labels.Text(out.Labels)
			if out.Has {
				n, _ := rat.Text(out.V)
				got += " " + n
			} else if !rat.Same(out.V, api.Rat{}) {
				t.Errorf("%d: a number that is none", i)
			}
		} else if !sameOut(out, Out{}) {
			t.Errorf("%d: %+v", i, out)
		}
		if got != c.want {
			t.Errorf("%d: %s", i, got)
		}
	}
	for _, p := range []*Pipe{nil, {}} {
		if out, ok := p.Run(sample.Labels("a", "1"), "x"); ok || !sameOut(out, Out{}) {
			t.Error("a pipeline that is none")
		}
	}
}

// TestNew covers P25.1: stages that are not valid.
func TestNew(t *testing.T) {
	deep := is("a", "")
	for range 20 {
		deep = api.Cond{Kind: 5, L: []api.Cond{deep, is("a", "")}}
	}
	good := kind(5)
	for i, c := range []struct {
		l []api.Stage
		e api.Errno
	}{
		{slices.Repeat(stages(good), 16), api.OK}, {slices.Repeat(stages(good), 17), api.ErrArg}, {slices.Repeat(stages(text(3, "(")), 17), api.ErrArg},
		{stages(kind(0)), api.ErrArg}, {stages(kind(16)), api.ErrArg}, {stages(api.Stage{Kind: -1, Name: "a"}), api.ErrArg}, {stages(api.Stage{Kind: 16, Name: "a"}), api.ErrArg},
		{stages(format("", "x")), api.ErrArg}, {stages(named(12, "9")), api.ErrArg}, {stages(named(13, "")), api.ErrArg}, {stages(named(14, "a-b")), api.ErrArg}, {stages(named(15, strings.Repeat("n", 65))), api.ErrArg}, {stages(format("9", "{{")), api.ErrArg},
		{stages(text(3, "(")), api.ErrRegex}, {stages(text(4, "*")), api.ErrRegex}, {stages(text(8, "(")), api.ErrRegex}, {stages(text(8, strings.Repeat("a", 257))), api.ErrRegex}, {stages(text(8, "a")), api.OK},
		{stages(text(7, "x")), api.ErrPattern}, {stages(text(10, "{{")), api.ErrTemplate}, {stages(format("a", "{{")), api.ErrTemplate},
		{stages(kind(9)), api.ErrArg}, {stages(cond(api.Cond{Kind: 1, Op: 3, Text: "("})), api.ErrRegex}, {stages(cond(deep)), api.ErrDepth},
		{stages(good, text(7, "x"), kind(0)), api.ErrPattern}, {stages(good, kind(0), text(7, "x")), api.ErrArg}, {stages(text(10, "{{"), text(3, "(")), api.ErrTemplate},
		{stages(api.Stage{Kind: 5, Text: "{{", Name: "9", Cond: deep}), api.OK}, {stages(api.Stage{Kind: 1, Text: "(", Name: "9"}), api.OK}, {stages(text(1, strings.Repeat("x", 9999))), api.OK},
	} {
		if p, e := New(c.l); e != c.e || (p == nil) != (e != api.OK) {
			t.Errorf("%d: %d", i, e)
		}
	}
}

// TestMemory covers P25.3: arguments are only read and not retained.
func TestMemory(t *testing.T) {
	l := stages(cond(greater("a", 5)), format("c", "{{.a}}"))
	p, _ := New(l)
	l[0].Cond.V.Num[0], l[1].Name = 7, "z"
	stream := sample.Labels("a", "6", "b", "x")
	for range 2 {
		out, ok := p.Run(stream, "line")
		if !ok || !labels.Same(out.Labels, sample.Labels("a", "6", "b", "x", "c", "6")) {
			t.Errorf("%v, %v", out, ok)
		}
		out.Labels[0].Value = "changed"
	}
	plain, _ := New(nil)
	out, _ := plain.Run(stream, "line")
	out.Labels[0].Value = "changed"
	if !labels.Same(stream, sample.Labels("a", "6", "b", "x")) {
		t.Errorf("%v", stream)
	}
}

// randomStage returns a stage; not a parser and not one that sets a number, if plain is true.
func randomStage(random *rand.Rand, plain bool) api.Stage {
	all := []api.Stage{kind(5), kind(6), text(7, "<a>=<b>"), text(8, "(?P<a>[a-z]+)=(?P<c>.)"), named(13, "b"), named(14, "b"), named(13, "c"),
		text(1, "a"), text(2, "zz"), text(3, "a|b"), text(4, "q"), cond(greater("b", 0)), cond(is("a", "x")), cond(api.Cond{Kind: 6, L: []api.Cond{greater("c", 1), is("b", "")}}), text(10, "{{.a}} {{__line__}}"), text(10, "a={{.b}}"), format("b", "{{.a}}1"), format("__error__", "{{.c}}"), named(12, "a"), named(12, "__error__"), named(12, "b")}
	first := 0
	if plain {
		first = 7
	}
	return all[first+random.Intn(len(all)-first)]
}

// TestLaws covers P25.4 to P25.7.
func TestLaws(t *testing.T) {
	random := rand.New(rand.NewSource(25))
	lines := []string{"a=1 b=2", "a=x c=5s", `{"a":"x","b":1}`, "ab", "zz", "q=1 a=2", ""}
	streams := [][]api.Label{nil, sample.Labels("a", "x"), sample.Labels("__error__", "E", "b", "7"), sample.Labels("b", "2s", "c", "9")}
	kept := 0
	for range 20000 {
		var first, last []api.Stage
		for range random.Intn(4) {
			first = append(first, randomStage(random, false))
			last = append(last, randomStage(random, true))
		}
		stream, line := streams[random.Intn(len(streams))], lines[random.Intn(len(lines))]
		whole, ok := run(t, slices.Concat(first, last), stream, line)
		half, is := run(t, first, stream, line)
		if is {
			v, has := half.V, half.Has
			half, is = run(t, last, half.Labels, half.Line)
			if is {
				half.V, half.Has = v, has
			}
		}
		if ok != is || !sameOut(whole, half) {
			t.Fatalf("%+v, %+v, %v, %q: %+v, %+v", first, last, stream, line, whole, half)
		}
		if !ok {
			continue
		}
		kept++
		if len(labels.Without(whole.Labels, nil)) != len(whole.Labels) {
			t.Fatalf("%v", whole.Labels)
		}
		checkTests(t, random, first, stream, line)
	}
	if kept < 2000 {
		t.Errorf("%d kept", kept)
	}
}

// checkTests adds stages that only test lines, in any order, and once more.
func checkTests(t *testing.T, random *rand.Rand, l []api.Stage, stream []api.Label, line string) {
	t.Helper()
	tests := stages(text(1, "a"), text(2, "zz"), text(3, "[ab]"), text(4, strconv.Itoa(random.Intn(3))))
	before, isBefore := run(t, l, stream, line)
	one, ok := run(t, slices.Concat(l, tests), stream, line)
	if ok && (!isBefore || !sameOut(one, before)) {
		t.Fatalf("%+v: %+v", before, one)
	}
	random.Shuffle(len(tests), func(i, j int) { tests[i], tests[j] = tests[j], tests[i] })
	two, is := run(t, slices.Concat(l, tests, tests[:1]), stream, line)
	if ok != is || !sameOut(one, two) {
		t.Fatalf("%+v: %+v", one, two)
	}
	once, isOnce := run(t, slices.Concat(l, stages(named(12, "b"))), stream, line)
	twice, isTwice := run(t, slices.Concat(l, stages(named(12, "b"), named(12, "b"))), stream, line)
	if isOnce != isTwice || !sameOut(once, twice) {
		t.Fatalf("%+v: %+v", once, twice)
	}
}
