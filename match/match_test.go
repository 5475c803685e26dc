package match

import (
	"math/rand"
	"slices"
	"strconv"
	"strings"
	"testing"

	"driftnet/api"
	"driftnet/labels"
	"driftnet/rat"
	"driftnet/sample"
)

func value(v string, l ...string) api.Value {
	r, _ := rat.Read(v)
	return api.Value{Labels: sample.Labels(l...), V: r}
}

func values1(l ...api.Value) Side { return Side{L: l} }

func number(s string) Side {
	r, _ := rat.Read(s)
	return Side{IsNumber: true, V: r}
}

func show(s Side, is bool, e api.Errno) string {
	if e != api.OK {
		return "error " + strconv.Itoa(int(e)) + map[bool]string{true: " and more"}[is || s.IsNumber || len(s.L) > 0 || !rat.Same(s.V, api.Rat{})]
	}
	if !is {
		return "none" + map[bool]string{true: " and more"}[s.IsNumber || len(s.L) > 0 || !rat.Same(s.V, api.Rat{})]
	}
	if s.IsNumber {
		v, _ := rat.Text(s.V)
		return v
	}
	var parts []string
	for _, x := range s.L {
		v, _ := rat.Text(x.V)
		parts = append(parts, labels.Text(x.Labels)+"="+v)
	}
	return strings.Join(parts, " ")
}

func op(op int) api.Expr { return api.Expr{Kind: api.ExprBinary, Op: op} }

func bools(op int) api.Expr { return api.Expr{Kind: api.ExprBinary, Op: op, Bool: true} }

func on(op, match, side int, names string, extra ...string) api.Expr {
	return api.Expr{Kind: api.ExprBinary, Op: op, Match: match, Side: side, Names: strings.Fields(names), Extra: extra}
}

func ab() Side { return values1(value("6", "a", "1", "b", "1"), value("8", "a", "1", "b", "2")) }

var wide = api.Rat{Num: make([]uint32, 17), Den: []uint32{1}}

// TestCheck covers P28.1 and P28.2: sides and operators that are valid.
func TestCheck(t *testing.T) {
	for _, s := range []Side{{}, number("1"), number("-1/3"), ab(), {V: api.Rat{Num: []uint32{}}}} {
		if e := Check(s); e != api.OK {
			t.Errorf("%+v: %d", s, e)
		}
	}
	bad := []Side{{IsNumber: true}, {IsNumber: true, V: wide}, {IsNumber: true, V: rat.Of(1), L: ab().L}, {V: rat.Of(0)}, {V: api.Rat{Neg: true}}, values1(value("1"), value("2")), values1(api.Value{})}
	for i, s := range bad {
		if e := Check(s); e != api.ErrArg {
			t.Errorf("%d: %d", i, e)
		}
		if got := show(Run(op(api.OpAdd), s, number("1"))); got != "error 2" {
			t.Errorf("%d: %s", i, got)
		}
		if got := show(Run(op(api.OpAdd), number("1"), s)); got != "error 2" {
			t.Errorf("%d: %s", i, got)
		}
	}
	n, v := number("1"), ab()
	for i, c := range []struct {
		x    api.Expr
		a, b Side
	}{
		{api.Expr{}, v, v}, {api.Expr{Kind: api.ExprVector, Op: api.OpAdd}, v, v}, {op(4), v, v}, {op(18), v, v}, {bools(api.OpAdd), v, v}, {bools(api.OpAnd), v, v}, {on(11, 3, 0, ""), v, v}, {on(11, -1, 0, ""), v, v}, {on(11, 0, 0, "a"), v, v}, {on(11, 1, 3, "a"), v, v}, {on(11, 1, -1, "a"), v, v}, {on(11, 1, 0, "a", "b"), v, v},
		{on(api.OpAnd, 1, 1, "a"), v, v}, {op(api.OpAnd), v, n}, {op(api.OpOr), n, v}, {op(api.OpUnless), n, n}, {on(11, 1, 0, ""), n, v}, {on(11, 2, 0, "a"), v, n}, {on(11, 0, 1, ""), v, n}, {on(11, 1, 0, ""), n, n}, {op(api.OpEq), n, n}, {op(api.OpGe), n, n},
	} {
		if got := show(Run(c.x, c.a, c.b)); got != "error 2" {
			t.Errorf("%d: %s", i, got)
		}
	}
}

// TestNumbers covers P28.2 for two numbers.
func TestNumbers(t *testing.T) {
	tiny := "1/" + strings.Repeat("9", 154)
	for _, c := range []struct {
		x          api.Expr
		a, b, want string
	}{
		{op(api.OpAdd), "1/2", "1/3", "5/6"}, {op(api.OpSub), "1/2", "1/3", "1/6"}, {op(api.OpMul), "1/2", "1/3", "1/6"}, {op(api.OpDiv), "1/2", "1/3", "3/2"}, {op(api.OpDiv), "1", "0", "none"}, {op(api.OpDiv), "0", "0", "none"}, {op(api.OpDiv), "0", "1", "0"},
		{bools(api.OpEq), "1", "1", "1"}, {bools(api.OpEq), "1", "2", "0"}, {bools(api.OpNe), "1", "2", "1"}, {bools(api.OpNe), "3", "2", "1"}, {bools(api.OpNe), "2", "2", "0"}, {bools(api.OpLe), "3", "2", "0"}, {bools(api.OpLe), "1", "2", "1"}, {bools(api.OpLt), "3", "2", "0"}, {bools(api.OpGe), "3", "2", "1"}, {bools(api.OpLt), "1", "2", "1"}, {bools(api.OpLt), "2", "2", "0"}, {bools(api.OpLe), "2", "2", "1"}, {bools(api.OpGt), "2", "2", "0"}, {bools(api.OpGt), "3", "2", "1"}, {bools(api.OpGe), "2", "2", "1"}, {bools(api.OpGe), "-3", "2", "0"},
		{op(api.OpMul), tiny, tiny, "error 20"}, {op(api.OpAdd), "1/7", tiny, "error 20"},
	} {
		if got := show(Run(c.x, number(c.a), number(c.b))); got != c.want {
			t.Errorf("%s, %d, %s: %s", c.a, c.x.Op, c.b, got)
		}
	}
}

// TestOneNumber covers P28.2 for values and a number.
func TestOneNumber(t *testing.T) {
	l := values1(value("1", "a", "1"), value("5", "a", "2"))
	zero := values1(value("0", "a", "1"), value("5", "a", "2"))
	tiny := "1/" + strings.Repeat("9", 154)
	for i, c := range []struct {
		x    api.Expr
		a, b Side
		want string
	}{
		{op(api.OpGt), l, number("3"), `{a="2"}=5`}, {bools(api.OpGt), l, number("3"), `{a="1"}=0 {a="2"}=1`}, {op(api.OpGt), number("3"), l, `{a="1"}=1`}, {bools(api.OpGt), number("3"), l, `{a="1"}=1 {a="2"}=0`}, {op(api.OpSub), l, number("3"), `{a="1"}=-2 {a="2"}=2`}, {op(api.OpSub), number("3"), l, `{a="1"}=2 {a="2"}=-2`}, {op(api.OpDiv), number("3"), zero, `{a="2"}=3/5`}, {op(api.OpDiv), zero, number("0"), ""}, {op(api.OpEq), number("1"), l, `{a="1"}=1`}, {op(api.OpNe), l, number("7"), `{a="1"}=1 {a="2"}=5`}, {op(api.OpLe), l, number("0"), ""}, {op(api.OpAdd), Side{}, number("0"), ""}, {op(api.OpAdd), values1(value("1/7", "a", "1")), number(tiny), "error 20"}, {op(api.OpGt), values1(value("1/7", "a", "1")), number(tiny), `{a="1"}=1/7`},
	} {
		if got := show(Run(c.x, c.a, c.b)); got != c.want {
			t.Errorf("%d: %s", i, got)
		}
	}
}

// TestPairs covers P28.2 for values on both sides.
func TestPairs(t *testing.T) {
	one := values1(value("2", "a", "1"))
	left := values1(value("1", "a", "1"), value("5", "a", "2"))
	right := values1(value("9", "a", "2"), value("1", "a", "3"))
	tiny := "1/" + strings.Repeat("9", 154)
	rich := values1(value("2", "a", "1", "c", "x"), value("4", "a", "2", "d", "y"))
	for i, c := range []struct {
		x    api.Expr
		a, b Side
		want string
	}{
		{on(api.OpDiv, 1, 1, "a"), ab(), one, `{a="1", b="1"}=3 {a="1", b="2"}=4`}, {on(api.OpDiv, 1, 0, "a"), ab(), one, "error 280"}, {on(api.OpDiv, 1, 2, "a"), ab(), one, "error 280"}, {on(api.OpDiv, 1, 2, "a"), one, ab(), `{a="1", b="1"}=1/3 {a="1", b="2"}=1/4`}, {on(api.OpDiv, 1, 1, "a"), one, ab(), "error 280"}, {on(api.OpDiv, 1, 0, "a"), one, ab(), "error 280"}, {on(api.OpDiv, 1, 0, "a"), values1(value("2", "a", "9")), ab(), ""}, {on(api.OpDiv, 1, 0, "a"), ab(), values1(value("2", "a", "9")), ""},
		{op(api.OpAdd), left, right, `{a="2"}=14`}, {op(api.OpAdd), left, left, `{a="1"}=2 {a="2"}=10`}, {on(api.OpAdd, 2, 0, "b"), values1(value("1", "a", "1", "b", "1")), values1(value("2", "a", "1", "b", "2")), `{a="1"}=3`}, {on(api.OpAdd, 2, 0, "x"), left, right, `{a="2"}=14`}, {on(api.OpAdd, 1, 0, ""), left, one, "error 280"}, {on(api.OpAdd, 1, 0, ""), one, one, "{}=4"}, {on(api.OpAdd, 1, 1, ""), left, one, `{a="1"}=3 {a="2"}=7`}, {on(api.OpAdd, 0, 1, "", "a"), left, left, `{a="1"}=2 {a="2"}=10`},
		{on(api.OpMul, 1, 1, "a", "c", "d"), ab(), rich, `{a="1", b="1", c="x"}=12 {a="1", b="2", c="x"}=16`}, {on(api.OpMul, 1, 2, "a", "b"), rich, values1(value("3", "a", "2", "b", "q")), `{a="2"}=12`}, {on(api.OpMul, 1, 1, "a", "b"), ab(), rich, "error 280"}, {on(api.OpMul, 1, 1, "", "a"), left, values1(value("3", "a", "7")), "error 280"}, {on(api.OpEq, 1, 1, "", "a"), left, values1(value("3", "a", "7")), "error 280"},
		// A key that occurs twice on the side of one is too many, even if the labels of the pairs differ.
		{on(api.OpAdd, 1, 1, "c", "d"), values1(value("1", "c", "x")), values1(value("1", "c", "x"), value("2", "c", "x", "d", "y")), "error 280"}, {on(api.OpAdd, 1, 2, "c", "d"), values1(value("1", "c", "x"), value("2", "c", "x", "d", "y")), values1(value("1", "c", "x")), "error 280"}, {on(api.OpAdd, 1, 1, "c", "d"), values1(value("1", "c", "z")), values1(value("1", "c", "x"), value("2", "c", "x", "d", "y")), ""}, {on(api.OpAdd, 1, 0, "c"), values1(value("1", "c", "z")), values1(value("1", "c", "x"), value("2", "c", "x", "d", "y")), ""},
		{op(api.OpGt), left, left, ""}, {op(api.OpGe), left, left, `{a="1"}=1 {a="2"}=5`}, {op(api.OpLt), left, right, `{a="2"}=5`}, {bools(api.OpGt), left, right, `{a="2"}=0`}, {on(api.OpLt, 1, 2, ""), values1(value("3", "z", "1")), right, `{a="2"}=3`}, {op(api.OpDiv), left, values1(value("0", "a", "1"), value("5", "a", "2")), `{a="2"}=1`},
		{on(api.OpAdd, 1, 1, "c"), values1(value("1/7", "a", "1"), value("1", "a", "2", "c", "x"), value("1", "a", "3", "c", "x")), values1(value(tiny), value("1", "c", "x"), value("2", "c", "x", "d", "y")), "error 280"}, {op(api.OpAdd), values1(value("1/7")), values1(value(tiny)), "error 20"}, {op(api.OpAdd), Side{}, Side{}, ""},
	} {
		if got := show(Run(c.x, c.a, c.b)); got != c.want {
			t.Errorf("%d: %s", i, got)
		}
	}
}

// TestSets covers P28.2 for set operators.
func TestSets(t *testing.T) {
	left := values1(value("1", "a", "1"), value("5", "a", "2"))
	right := values1(value("9", "a", "2"), value("1", "a", "3"))
	for i, c := range []struct {
		x    api.Expr
		a, b Side
		want string
	}{
		{op(api.OpUnless), left, right, `{a="1"}=1`}, {op(api.OpAnd), left, right, `{a="2"}=5`}, {op(api.OpOr), left, right, `{a="1"}=1 {a="2"}=5 {a="3"}=1`}, {op(api.OpOr), right, left, `{a="1"}=1 {a="2"}=9 {a="3"}=1`}, {on(api.OpOr, 1, 0, ""), left, right, `{a="1"}=1 {a="2"}=5`}, {on(api.OpOr, 1, 0, ""), Side{}, right, `{a="2"}=9 {a="3"}=1`}, {on(api.OpAnd, 1, 0, ""), left, right, `{a="1"}=1 {a="2"}=5`}, {on(api.OpUnless, 2, 0, "a"), left, right, ""}, {on(api.OpAnd, 2, 0, "b"), ab(), values1(value("1", "a", "1", "b", "9")), `{a="1", b="1"}=6 {a="1", b="2"}=8`}, {on(api.OpOr, 1, 0, "a"), ab(), values1(value("1"), value("3", "a", "0", "z", "1"), value("2", "a", "1")), `{}=1 {a="0", z="1"}=3 {a="1", b="1"}=6 {a="1", b="2"}=8`},
	} {
		if got := show(Run(c.x, c.a, c.b)); got != c.want {
			t.Errorf("%d: %s", i, got)
		}
	}
}

// noise returns values with random labels and numbers.
func noise(random *rand.Rand) Side {
	var l []api.Value
	for _, i := range random.Perm(12)[:random.Intn(8)] {
		l = append(l, value(strconv.Itoa(random.Intn(5)-2), "a", strconv.Itoa(i%3), "b", strconv.Itoa(i/3)))
	}
	slices.SortFunc(l, func(x, y api.Value) int { return labels.Compare(x.Labels, y.Labels) })
	return Side{L: l}
}

// TestLaws covers P28.3, P28.4 and P28.5.
func TestLaws(t *testing.T) {
	random := rand.New(rand.NewSource(28))
	for range 3000 {
		a, b := noise(random), noise(random)
		before := show(a, true, 0) + "; " + show(b, true, 0)
		x := on(0, random.Intn(3), 0, "")
		if x.Match > 0 {
			x.Names = []string{"b", "a"}[random.Intn(2):]
		}
		run := func(op int, bool bool, a, b Side) Side {
			x.Op, x.Bool = op, bool
			s, is, e := Run(x, a, b)
			if e == api.OK && (!is || Check(s) != api.OK || s.IsNumber) {
				t.Fatalf("%+v: %s", x, show(s, is, e))
			}
			if e == api.ErrMany {
				return number("280")
			}
			return s
		}
		and, unless, or := run(api.OpAnd, false, a, b), run(api.OpUnless, false, a, b), run(api.OpOr, false, a, b)
		both := slices.Concat(and.L, unless.L)
		slices.SortFunc(both, func(x, y api.Value) int { return labels.Compare(x.Labels, y.Labels) })
		if show(Side{L: both}, true, 0) != show(a, true, 0) || show(run(api.OpOr, false, a, a), true, 0) != show(a, true, 0) {
			t.Fatalf("%+v, %s", x, before)
		}
		for _, value := range a.L {
			if !slices.ContainsFunc(or.L, func(y api.Value) bool { return labels.Same(y.Labels, value.Labels) && rat.Same(y.V, value.V) }) {
				t.Fatalf("%+v, %s: or %s", x, before, show(or, true, 0))
			}
		}
		for _, op := range []int{api.OpAdd, api.OpMul} {
			if show(run(op, false, a, b), true, 0) != show(run(op, false, b, a), true, 0) {
				t.Fatalf("%+v, %s: not commutative", x, before)
			}
		}
		for op := api.OpEq; op <= api.OpGe; op++ {
			kept, told := run(op, false, a, b), run(op, true, a, b)
			var want []api.Value
			for _, value := range told.L {
				if rat.Same(value.V, rat.Of(1)) {
					want = append(want, value)
				}
			}
			if !slices.EqualFunc(kept.L, want, func(x, y api.Value) bool { return labels.Same(x.Labels, y.Labels) }) {
				t.Fatalf("%+v, %s: %s, %s", x, before, show(kept, true, 0), show(told, true, 0))
			}
		}
		for _, s := range []Side{and, unless, or} {
			for i := range s.L {
				s.L[i].V.Den[0] = 99
				s.L[i].Labels[0].Value = "changed"
			}
		}
		if show(a, true, 0)+"; "+show(b, true, 0) != before {
			t.Fatalf("%s was changed", before)
		}
	}
}

// TestMemory covers P28.3 for the results of comparisons and pairs.
func TestMemory(t *testing.T) {
	for _, x := range []api.Expr{op(api.OpGe), op(api.OpAdd), on(api.OpGe, 1, 1, "a b"), on(api.OpGe, 1, 2, "a b"), on(api.OpGe, 1, 0, "a b")} {
		a, b, n := ab(), ab(), number("0")
		for _, sides := range [][2]Side{{a, b}, {a, n}, {n, a}} {
			s, _, _ := Run(x, sides[0], sides[1])
			for i := range s.L {
				s.L[i].V.Num[0], s.L[i].Labels[0].Value = 99, "changed"
			}
			if show(a, true, 0) != show(ab(), true, 0) || show(b, true, 0) != show(ab(), true, 0) || !rat.IsZero(n.V) {
				t.Errorf("%+v: %s", x, show(a, true, 0))
			}
		}
	}
}
