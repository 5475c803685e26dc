package forms

import (
	"math/rand"
	"strings"
	"testing"

	"driftnet/api"
	"driftnet/quote"
	"driftnet/sample"
)

func run(t *testing.T, template string, l []api.Label, line string) string {
	t.Helper()
	f, e := New(template)
	if e != api.OK {
		t.Fatalf("%s: %d", template, e)
	}
	return f.Run(l, line)
}

// TestNew covers P19.1: what is a template.
func TestNew(t *testing.T) {
	long := strings.Repeat("n", 64)
	for _, template := range []string{"", "}}", "{", "{ {", "}}{{.a}}}}", "{{.a}}", "{{  .a  |  upper  |len }}", "{{__line__}}", "{{.__line__}}", "{{.a|quote}}{{.b}}", "{{." + long + "}}", strings.Repeat("x", 1024), "{{.a}}{"} {
		if f, e := New(template); e != api.OK || f == nil {
			t.Errorf("%s: %d", template, e)
		}
	}
	for _, template := range []string{"{{", "{{}}", "{{ }}", "{{.9}}", "{{app}}", "{{.a | up}}", "{{.a.b}}", "{{.}}", "{{. a}}", "{{.a b}}", "{{.a|}}", "{{|upper}}", "{{.a||upper}}", "{{.a|upper len}}", "{{.a", "{{.a}", "{{.a} }", "{{{.a}}", "{{.a}}{{", "{{{{.a}}}}", "{{\t.a}}", "{{.a\n}}", "{{.a | upper\t}}", "{{__line}}", "{{line}}", "{{.a-b}}", "{{.é}}", "{{.a|Upper}}", "{{.a.}}", "{{" + long + "}}", "{{." + long + "n}}", strings.Repeat("x", 1025), "{{.a|.b}}", "{{.a|__line__}}"} {
		if f, e := New(template); e != api.ErrTemplate || f != nil {
			t.Errorf("%s: %d", template, e)
		}
	}
}

// TestRun covers P19.2 and the functions.
func TestRun(t *testing.T) {
	for _, c := range []struct {
		template string
		l        []api.Label
		line     string
		want     string
	}{
		{"{{.app}}: {{ __line__ }}", sample.Labels("app", "web"), "hi", "web: hi"},
		{"{{.x | upper | len}}-{{.y}}}", sample.Labels("x", "ab"), "", "2-}"},
		{"{{__line__|upper}}", nil, "aZz{`é\xff", "AZZ{`é\xff"},
		{"{{__line__|lower}}", nil, "aZA@[É", "aza@[É"},
		{"<{{__line__|trim}}>", nil, " \t\x00a b\n\x1f", "<a b>"},
		{"<{{__line__|trim}}>", nil, "\u0085\u00a0", "<\u0085\u00a0>"},
		{"{{__line__ | quote}}", nil, "a\"\n", `"a\"\n"`},
		{"{{.a | len}}{{.b|len}}", sample.Labels("a", "é"), "", "20"},
		{"{{.a}}{{.a}}", sample.Labels("b", "x", "a", "1", "a", "2"), "", "11"},
		{"{{.a}}", sample.Labels("a", "{{.b}}", "b", "x"), "", "{{.b}}"},
		{"}} {{.a}} }}", sample.Labels("a", "1"), "", "}} 1 }}"},
		{"{{.__line__}}", sample.Labels("__line__", "label"), "line", "label"},
	} {
		if got := run(t, c.template, c.l, c.line); got != c.want {
			t.Errorf("%s: %q", c.template, got)
		}
	}
	for _, f := range []*Form{nil, {}} {
		if f.Run(sample.Labels("a", "1"), "x") != "" {
			t.Error("a template that is none")
		}
	}
	l := sample.Labels("a", "x", "b", "y")
	run(t, "{{.a|upper}}", l, "")
	if l[0].Value != "x" {
		t.Error("the argument was changed")
	}
}

// TestLimits covers P19.2: results and quotes have at most 4096 bytes.
func TestLimits(t *testing.T) {
	long := strings.Repeat("a", 5000)
	for template, want := range map[string]string{
		"{{__line__}}":              long[:4096],
		"x{{__line__}}":             "x" + long[:4095],
		"{{__line__|len}}":          "5000",
		"{{__line__|quote}}":        `"` + long[:4095],
		"{{__line__|quote|len}}":    "4096",
		"{{.a}}{{.a}}|{{__line__}}": strings.Repeat("b", 4094)[:4094] + "|a",
	} {
		if got := run(t, template, sample.Labels("a", strings.Repeat("b", 2047)), long); got != want {
			t.Errorf("%s: %d bytes", template, len(got))
		}
	}
	many := strings.Repeat("{{__line__|quote|quote|quote|quote}}", 28)
	if got := run(t, many, nil, strings.Repeat("\x00", 1<<20)); len(got) != 4096 {
		t.Errorf("%d bytes", len(got))
	}
}

// TestLaws covers P19.3 and P19.4.
func TestLaws(t *testing.T) {
	random := rand.New(rand.NewSource(19))
	pieces := []string{"a", "}}", "{", " ", "{{.a}}", "{{.b | upper}}", "{{ __line__ }}", "|", "{{.c|quote|len}}"}
	names := []string{"upper", "lower", "trim", "quote", "len"}
	apply := func(s, name string) string {
		switch name {
		case "upper":
			return strings.ToUpper(s)
		case "lower":
			return strings.ToLower(s)
		case "trim":
			return strings.TrimSpace(s)
		case "quote":
			return quote.Quote(s)
		}
		return run(t, "{{__line__|len}}", nil, s)
	}
	l := sample.Labels("a", "x{{y", "b", "ab")
	for range 3000 {
		one, two := "", ""
		for range random.Intn(5) {
			one += pieces[random.Intn(len(pieces))]
			two += pieces[random.Intn(len(pieces))]
		}
		f, e := New(one)
		g, h := New(two)
		both, i := New(one + two)
		if e == api.OK && h == api.OK && i == api.OK && !strings.HasSuffix(one, "{") && both.Run(l, " line") != f.Run(l, " line")+g.Run(l, " line") {
			t.Fatalf("%s, %s: %s", one, two, both.Run(l, " line"))
		}
		if e == api.OK && !strings.Contains(one, "{{") && f.Run(l, "x") != one {
			t.Fatalf("%s: %s", one, f.Run(l, "x"))
		}
		field, want, line := "{{__line__", " aB ", " aB "
		for range random.Intn(6) {
			name := names[random.Intn(5)]
			field, want = field+" | "+name, apply(want, name)
			if got := run(t, field+"}}", nil, line); got != want {
				t.Fatalf("%s: %q, not %q", field, got, want)
			}
			for _, twice := range []string{"upper", "lower", "trim"} {
				if run(t, field+"|"+twice+"}}", nil, line) != run(t, field+"|"+twice+"|"+twice+"}}", nil, line) {
					t.Fatalf("%s, %s twice", field, twice)
				}
			}
		}
	}
}
