package logfmt

import (
	"math/rand"
	"strconv"
	"strings"
	"testing"

	"driftnet/api"
	"driftnet/labels"
	"driftnet/quote"
)

// TestParse covers P16.1: lines and their labels.
func TestParse(t *testing.T) {
	long := strings.Repeat("k", 70)
	for line, want := range map[string]string{
		`a=1 b="x y" c`: `{a="1", b="x y"}`, "a=1 a=2 a-b=": `{a="2"}`, "": "{}", " \t\x00": "{}", "a": "{}", "a=": "{}", "a=1 a=": "{}", "a=1 a": "{}", "a= a=2": `{a="2"}`, `a="" b=1`: `{b="1"}`,
		"b=1 a=2": `{a="2", b="1"}`, "9x=1 a.b=2 é=3": `{_9x="1", __="3", a_b="2"}`, "a.b=1 a-b=2": `{a_b="2"}`, `a="\"\\\n\x41" b=1`: `{a="\"\\\nA", b="1"}`, "a=1\nb=2\r": `{a="1", b="2"}`, "a=`x`": "{a=\"`x`\"}", "a=\xff\x7f": `{a="\xff\x7f"}`, "a=é\u0085b": "{a=\"é\u0085b\"}", "a= b": "{}", "\x1fa=1\x1f": `{a="1"}`, "a=\"x\ty\"": `{a="x\ty"}`,
		long + "=1": "{" + long[:64] + `="1"}`, "__error__=x": `{__error__="x"}`, "a={}[],:'": `{a="{}[],:'"}`,
	} {
		l, ok := Parse(line)
		if !ok || labels.Text(l) != want {
			t.Errorf("%q: %s, %v", line, labels.Text(l), ok)
		}
	}
	for _, line := range []string{"=1", "a=b=c", `a="x`, `a="x"y`, `a"b`, `"a"`, `a="x""y"`, "a==", `a=x"y"`, `a=1 "`, "b=1 =", `a="\q"`, "a=\"x\ny\"", `a="x\"`, `a="x"=`, "a =1", `a="\`, `a="`, `a="x"b=1`, `a=1 b="`} {
		if l, ok := Parse(line); ok || len(l) > 0 {
			t.Errorf("%q: %v", line, l)
		}
	}
}

// TestLaws covers P16.2 and P16.3: quoted values, white space, and lines in a row.
func TestLaws(t *testing.T) {
	random := rand.New(rand.NewSource(16))
	spaces := []string{" ", "\t", "\n", "\x00", "  ", " \r\n "}
	space := func() string { return spaces[random.Intn(len(spaces))] }
	line := func() (string, []api.Label) {
		text, l := "", []api.Label(nil)
		for i := range random.Intn(5) {
			name := "n" + strconv.Itoa(random.Intn(6))
			value := strings.Repeat([]string{"", "x", "=\"", "\xff", "é ", "\n", "\\"}[random.Intn(7)], 1+random.Intn(3))
			if i > 0 {
				text += space()
			}
			text += name + "=" + quote.Quote(value)
			l = labels.Set(l, name, value)
		}
		return text, l
	}
	for range 3000 {
		one, first := line()
		two, second := line()
		got, ok := Parse(one)
		again, fine := Parse(space() + one + space())
		if !ok || !fine || !labels.Same(got, first) || !labels.Same(again, first) {
			t.Fatalf("%q: %v, %v", one, got, again)
		}
		both, ok := Parse(one + space() + two)
		for _, name := range strings.Fields("n0 n1 n2 n3 n4 n5") {
			want := labels.Get(second, name)
			if want == "" && !strings.Contains(two, name) {
				want = labels.Get(first, name)
			}
			if !ok || labels.Get(both, name) != want {
				t.Fatalf("%q, %q: %v", one, two, both)
			}
		}
		if len(second) == 0 && two == "" && !labels.Same(both, first) {
			t.Fatalf("%q: %v", one, both)
		}
	}
}

// TestLong covers P16.1 for a line with very many pairs.
func TestLong(t *testing.T) {
	var line strings.Builder
	for i := range 100000 {
		line.WriteString("k" + strconv.Itoa(i) + "=1 ")
	}
	if l, ok := Parse(line.String()); !ok || len(l) != 100000 {
		t.Errorf("%d labels", len(l))
	}
}
