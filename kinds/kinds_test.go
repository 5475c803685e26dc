package kinds

import (
	"math/rand"
	"strings"
	"testing"

	"driftnet/api"
	"driftnet/parse"
	"driftnet/query"
	"driftnet/sample"
)

func expr(t *testing.T, s string) api.Expr {
	t.Helper()
	x, at, e := parse.Parse(s)
	if e != api.OK {
		t.Fatalf("%s: %d at %d", s, e, at)
	}
	return x
}

// TestOf covers P23.1: kinds of expressions that fit.
func TestOf(t *testing.T) {
	if Log != 1 || Series != 2 || Number != 3 {
		t.Errorf("%d, %d, %d", Log, Series, Number)
	}
	for s, want := range map[string]int{
		`{a="x"} |= "e"`: Log, `rate({a="x"}[5m])`: Series, "1 + 2": Number, "1 < bool 2": Number, "7": Number, "-1 / 0": Number, "1 + (2 == bool 3) * 4": Number,
		`sum(rate({a="x"}[5m]))`: Series, `1 + rate({a="x"}[5m])`: Series, `rate({a="x"}[5m]) > 1`: Series, `1 < rate({a="x"}[5m])`: Series, `rate({a="x"}[5m]) > bool 1`: Series, `rate({a="x"}[5m]) and on (a) rate({a="x"}[5m])`: Series, `topk(1, 1 + rate({a="x"}[5m]))`: Series, `rate({a="x"}[5m]) / on (a) group_left () rate({a="x"}[5m])`: Series,
		`sum_over_time({a="x"} | unwrap ms[5m])`: Series, `quantile_over_time(0.5, {a="x"} | unwrap duration(ms) | a > 5 | b = "x"[5m])`: Series, `max_over_time({a="x"} | logfmt | unwrap bytes(ms)[5m])`: Series,
		`{a=~"x.*", b!~""} |~ "a|b" !~ "c" | regexp "(?P<x>a)" | pattern "<a>" | line_format "{{.a}}" | label_format b = "{{.a}}" | a =~ "b*"`: Log,
		`{a="("} |= "(" != "[" | b = "(" | b != "*"`: Log,
	} {
		x := expr(t, s)
		y := query.Copy(x)
		if kind, e := Of(x); kind != want || e != api.OK || !query.Same(x, y) {
			t.Errorf("%s: %d, %d", s, kind, e)
		}
	}
}

// TestErrors covers P23.1: the first part that does not fit.
func TestErrors(t *testing.T) {
	for s, want := range map[string]api.Errno{
		`{a="x"} | unwrap ms`: api.ErrType, `rate({a="x"} | unwrap ms[5m])`: api.ErrType, "1 < 2": api.ErrType, "1 >= 2": api.ErrType, "1 == 2": api.ErrType, "1 and 2": api.ErrType,
		`{a=~"("}`: api.ErrRegex, `{a!~"("}`: api.ErrRegex, `{a="x"} | pattern "x"`: api.ErrPattern, `{a="x"} | line_format "{{"`: api.ErrTemplate, `{a="x"} | label_format a = "{{"`: api.ErrTemplate, `{a="x"} |~ "("`: api.ErrRegex, `{a="x"} !~ "("`: api.ErrRegex, `{a="x"} | regexp "("`: api.ErrRegex, `{a="x"} | regexp "(a)"`: api.ErrRegex, `{a="x"} | regexp "a"`: api.ErrRegex, `{a="x"} | a =~ "("`: api.ErrRegex, `{a="x"} | a !~ "("`: api.ErrRegex, `{a="x"} | a = "b" and (a = "c" or a =~ "(")`: api.ErrRegex, `{a=~"(?:a{50}){50}"}`: api.ErrRegex, `{a=~"` + strings.Repeat("(?:", 21) + strings.Repeat(")", 21) + `"}`: api.ErrRegex,
		`sum(1)`: api.ErrType, `sum(1 + 2)`: api.ErrType, "1 or 2": api.ErrType, "1 + on () 2": api.ErrType, "1 + ignoring () 2": api.ErrType, `1 + on (a) rate({a="x"}[5m])`: api.ErrType, `rate({a="x"}[5m]) and 1`: api.ErrType, `1 unless rate({a="x"}[5m])`: api.ErrType, `rate({a="x"}[5m]) * on () group_left () 2`: api.ErrType,
		`sum_over_time({a="x"}[5m])`: api.ErrType, `quantile_over_time(0.5, {a="x"}[5m])`: api.ErrType, `absent_over_time({a="x"} | unwrap ms[5m])`: api.ErrType, `sum_over_time({a="x"} | unwrap ms | unwrap ms[5m])`: api.ErrType, `sum_over_time({a="x"} | unwrap ms | json[5m])`: api.ErrType, `sum_over_time({a="x"} | unwrap ms |= "x"[5m])`: api.ErrType, `sum_over_time({a="x"} | unwrap ms | a = "b" | drop a[5m])`: api.ErrType,
		// The first part counts.
		`{a=~"("} | pattern "x"`: api.ErrRegex, `{a="x"} | pattern "x" |~ "("`: api.ErrPattern, `{a="x"} | line_format "{{" | pattern "x"`: api.ErrTemplate, `{a="x"} | unwrap a | pattern "x"`: api.ErrPattern, `{a="x"} | unwrap a | json | a =~ "("`: api.ErrRegex,
		`sum_over_time({a="x"} |~ "("[5m])`: api.ErrRegex, `sum(1) + rate({a=~"("}[5m])`: api.ErrType, `rate({a=~"("}[5m]) + sum(1)`: api.ErrRegex, `rate({a="x"} | pattern "x"[5m]) and 1`: api.ErrPattern, `1 and rate({a="x"} | line_format "{{"[5m])`: api.ErrTemplate,
	} {
		if kind, e := Of(expr(t, s)); kind != 0 || e != want {
			t.Errorf("%s: %d, %d", s, kind, e)
		}
	}
	for _, c := range []struct {
		x api.Expr
		e api.Errno
	}{{api.Expr{}, api.ErrQuery}, {api.Expr{Kind: api.ExprLog, Matchers: []api.Matcher{{Kind: 3, Name: "9", Value: "("}}}, api.ErrQuery}, {deep(21), api.ErrDepth}, {deep(20), api.OK}} {
		if kind, e := Of(c.x); e != c.e || (kind == 0) != (e != api.OK) {
			t.Errorf("%+v: %d, %d", c.x, kind, e)
		}
	}
}

func deep(depth int) api.Expr {
	one := api.Expr{Kind: api.ExprNumber, V: api.Rat{Num: []uint32{1}, Den: []uint32{1}}}
	x := one
	for range depth - 1 {
		x = api.Expr{Kind: api.ExprBinary, Op: api.OpAdd, L: []api.Expr{x, one}}
	}
	return x
}

// TestLaws covers P23.2, P23.3 and P23.4 on many expressions.
func TestLaws(t *testing.T) {
	random := rand.New(rand.NewSource(23))
	pick := sample.Pick(random.Intn)
	fits := map[int]int{}
	for range 30000 {
		x := pick.Expr(random.Intn(3))
		kind, e := Of(x)
		if e == api.OK {
			fits[kind]++
		} else if kind != 0 {
			t.Fatalf("%+v: %d, %d", x, kind, e)
		}
		hasRange := false
		var visit func(x api.Expr)
		visit = func(x api.Expr) {
			hasRange = hasRange || x.Kind == api.ExprRange
			for _, part := range x.L {
				if x.Kind != api.ExprRange {
					if _, f := Of(part); e == api.OK && f != api.OK {
						t.Fatalf("%+v fits, %+v does not: %d", x, part, f)
					}
				}
				visit(part)
			}
		}
		visit(x)
		if e == api.OK && (kind == Series) != hasRange {
			t.Fatalf("%+v: %d", x, kind)
		}
		if e != api.OK && e != api.ErrLimit {
			y := api.Expr{Kind: api.ExprBinary, Op: api.OpAdd, L: []api.Expr{x, x}}
			z := api.Expr{Kind: api.ExprVector, Fn: api.AggSum, L: []api.Expr{x}}
			for _, whole := range []api.Expr{y, z} {
				if _, f := Of(whole); f != e && f != api.ErrLimit {
					t.Fatalf("%+v: %d, but %d in a whole", x, e, f)
				}
			}
		}
	}
	if fits[Series] < 500 || fits[Number] < 100 {
		t.Errorf("%v", fits)
	}
}
