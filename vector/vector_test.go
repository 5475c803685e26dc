package vector

import (
	"math/rand"
	"slices"
	"strconv"
	"strings"
	"testing"

	"driftnet/api"
	"driftnet/labels"
	"driftnet/rat"
	"driftnet/sample"
)

func value(v string, l ...string) api.Value {
	r, _ := rat.Read(v)
	return api.Value{Labels: sample.Labels(l...), V: r}
}

func show(l []api.Value) string {
	var parts []string
	for _, x := range l {
		v, _ := rat.Text(x.V)
		parts = append(parts, labels.Text(x.Labels)+"="+v)
	}
	return strings.Join(parts, " ")
}

func example() []api.Value {
	return []api.Value{value("2", "a", "1", "b", "1"), value("3", "a", "1", "b", "2"), value("1/2", "a", "2")}
}

func fn(fn, group, k int, names ...string) api.Expr {
	return api.Expr{Kind: api.ExprVector, Fn: fn, Group: group, K: k, Names: names}
}

// TestCheck covers P27.1: what values are valid.
func TestCheck(t *testing.T) {
	wide := api.Rat{Num: make([]uint32, 17), Den: []uint32{1}}
	for _, l := range [][]api.Value{nil, {}, example(), {value("1")}, {value("1"), value("1", "a", "x")}, {value("-1/3", "", "x", "-", "y")}, {value("1", "a", "1"), value("1", "a", "1", "b", "1"), value("1", "a", "10")}} {
		if e := Check(l); e != api.OK {
			t.Errorf("%s: %d", show(l), e)
		}
	}
	for i, l := range [][]api.Value{{value("1"), value("2")}, {value("1", "a", "2"), value("1", "a", "1")}, {value("1", "a", "")}, {value("1", "b", "1", "a", "1")}, {value("1", "a", "1", "a", "2")}, {{}}, {{V: wide}}, {value("1"), {Labels: sample.Labels("a", "1"), V: api.Rat{Num: []uint32{2}, Den: []uint32{2}}}}} {
		if e := Check(l); e != api.ErrArg {
			t.Errorf("%d: %d", i, e)
		}
		if out, e := Run(fn(api.AggCount, 0, 0), l); e != api.ErrArg || len(out) > 0 {
			t.Errorf("%d: %s, %d", i, show(out), e)
		}
	}
}

// TestRun covers P27.2: each function, with and without groups.
func TestRun(t *testing.T) {
	for i, c := range []struct {
		x    api.Expr
		want string
	}{
		{fn(api.AggSum, 1, 0, "a"), `{a="1"}=5 {a="2"}=1/2`}, {fn(api.AggAvg, 0, 0), `{}=11/6`}, {fn(api.AggMax, 2, 0, "a"), `{}=1/2 {b="1"}=2 {b="2"}=3`}, {fn(api.AggTopk, 0, 2), `{a="1", b="1"}=2 {a="1", b="2"}=3`}, {fn(api.AggCount, 1, 0, "c"), "{}=3"},
		{fn(api.AggMin, 1, 0, "b", "a"), `{a="1", b="1"}=2 {a="1", b="2"}=3 {a="2"}=1/2`}, {fn(api.AggMin, 0, 0), "{}=1/2"}, {fn(api.AggCount, 2, 0), `{a="1", b="1"}=1 {a="1", b="2"}=1 {a="2"}=1`}, {fn(api.AggSum, 2, 0, "a", "b", "x"), "{}=11/2"}, {fn(api.AggSum, 0, 0, "a"), "{}=11/2"},
		{fn(api.AggBottomk, 0, 1), `{a="2"}=1/2`}, {fn(api.AggBottomk, 1, 1, "a"), `{a="1", b="1"}=2 {a="2"}=1/2`}, {fn(api.AggTopk, 2, 1000, "a"), `{a="1", b="1"}=2 {a="1", b="2"}=3 {a="2"}=1/2`}, {fn(api.AggTopk, 1, 1), `{a="1", b="2"}=3`},
		{fn(api.AggSort, 0, 0), `{a="2"}=1/2 {a="1", b="1"}=2 {a="1", b="2"}=3`}, {fn(api.AggSortDesc, 0, 0), `{a="1", b="2"}=3 {a="1", b="1"}=2 {a="2"}=1/2`}, {fn(api.AggSort, 1, -7, "a"), `{a="2"}=1/2 {a="1", b="1"}=2 {a="1", b="2"}=3`},
	} {
		if out, e := Run(c.x, example()); e != api.OK || show(out) != c.want {
			t.Errorf("%d: %s, %d", i, show(out), e)
		}
	}
	equal := []api.Value{value("1", "a", "1"), value("0", "a", "2"), value("1", "a", "3"), value("0", "a", "4")}
	for i, c := range []struct {
		x    api.Expr
		want string
	}{
		{fn(api.AggTopk, 0, 1), `{a="1"}=1`}, {fn(api.AggTopk, 0, 3), `{a="1"}=1 {a="2"}=0 {a="3"}=1`}, {fn(api.AggBottomk, 0, 1), `{a="2"}=0`}, {fn(api.AggSort, 0, 0), `{a="2"}=0 {a="4"}=0 {a="1"}=1 {a="3"}=1`}, {fn(api.AggSortDesc, 0, 0), `{a="1"}=1 {a="3"}=1 {a="2"}=0 {a="4"}=0`},
	} {
		if out, e := Run(c.x, equal); e != api.OK || show(out) != c.want {
			t.Errorf("equal %d: %s, %d", i, show(out), e)
		}
	}
	for f := 1; f <= 9; f++ {
		if out, e := Run(fn(f, 0, 1), nil); e != api.OK || len(out) > 0 {
			t.Errorf("function %d of nothing: %s, %d", f, show(out), e)
		}
	}
}

// TestErrors covers P27.2: functions that are not valid, and numbers that are too big.
func TestErrors(t *testing.T) {
	for i, x := range []api.Expr{{}, {Kind: api.ExprRange, Fn: 1}, fn(0, 0, 0), fn(10, 0, 0), fn(-1, 0, 0), fn(1, 3, 0), fn(1, -1, 0), fn(api.AggTopk, 0, 0), fn(api.AggTopk, 0, 1001), fn(api.AggBottomk, 1, -1)} {
		if out, e := Run(x, example()); e != api.ErrArg || len(out) > 0 {
			t.Errorf("%d: %s, %d", i, show(out), e)
		}
	}
	tiny := "1/" + strings.Repeat("9", 154)
	big := []api.Value{value("1/7", "a", "1", "b", "1"), value(tiny, "a", "1", "b", "2"), value("-1/7", "a", "1", "b", "3"), value("5", "a", "2")}
	for f, want := range map[int]api.Errno{api.AggSum: api.ErrBig, api.AggAvg: api.ErrBig, api.AggMin: api.OK, api.AggMax: api.OK, api.AggCount: api.OK, api.AggTopk: api.OK, api.AggSort: api.OK} {
		if out, e := Run(fn(f, 1, 2, "a"), big); e != want || (len(out) > 0) != (e == api.OK) {
			t.Errorf("function %d: %s, %d", f, show(out), e)
		}
	}
	if out, e := Run(fn(api.AggAvg, 0, 0), []api.Value{value("0"), value("0", "a", "1"), value("0", "a", "2"), value("0", "a", "3"), value("0", "a", "4"), value("0", "a", "5"), value(tiny, "a", "6")}); e != api.ErrBig || len(out) > 0 {
		t.Errorf("the quotient: %s, %d", show(out), e)
	}
}

// TestMemory covers P27.3: arguments are only read, and results share nothing with them.
func TestMemory(t *testing.T) {
	for f := 1; f <= 9; f++ {
		for group := range 3 {
			l := example()
			x := fn(f, group, 3, "b", "a")
			out, _ := Run(x, l)
			for i := range out {
				for j := range out[i].Labels {
					out[i].Labels[j].Value = "changed"
				}
				for j := range out[i].V.Num {
					out[i].V.Num[j] = 99
				}
				out[i].V.Den[0] = 99
			}
			if show(l) != show(example()) || !slices.Equal(x.Names, []string{"b", "a"}) {
				t.Errorf("function %d: %s", f, show(l))
			}
		}
	}
}

// TestLaws covers P27.4, P27.5 and P27.6.
func TestLaws(t *testing.T) {
	random := rand.New(rand.NewSource(27))
	run := func(x api.Expr, l []api.Value) []api.Value {
		out, e := Run(x, l)
		if e != api.OK {
			t.Fatalf("%+v: %d", x, e)
		}
		return out
	}
	for range 1000 {
		var l []api.Value
		for _, i := range random.Perm(12)[:random.Intn(12)] {
			l = append(l, value(strconv.Itoa(random.Intn(9)-4), "a", strconv.Itoa(i%3), "b", strconv.Itoa(i/3)))
		}
		slices.SortFunc(l, byLabels)
		group, k := random.Intn(3), 1+random.Intn(4)
		results := map[int][]api.Value{}
		for f := api.AggSum; f <= api.AggCount; f++ {
			results[f] = run(fn(f, group, 0, "a"), l)
			if Check(results[f]) != api.OK || len(results[f]) != len(results[api.AggSum]) {
				t.Fatalf("%s: %s", show(l), show(results[f]))
			}
		}
		for i := range results[api.AggSum] {
			if byNumber(results[api.AggMin][i], results[api.AggAvg][i]) > 0 || byNumber(results[api.AggAvg][i], results[api.AggMax][i]) > 0 {
				t.Fatalf("%s", show(l))
			}
		}
		if total := run(fn(api.AggSum, 0, 0), results[api.AggCount]); len(l) > 0 && !rat.Same(total[0].V, rat.Of(len(l))) {
			t.Fatalf("%s: %s", show(l), show(total))
		}
		if show(run(fn(api.AggSum, 0, 0), results[api.AggSum])) != show(run(fn(api.AggSum, 0, 0), l)) {
			t.Fatalf("%s", show(l))
		}
		for _, f := range []int{api.AggTopk, api.AggBottomk} {
			kept := run(fn(f, group, k, "a"), l)
			for _, x := range l {
				set := [][]api.Label{nil, labels.By(x.Labels, []string{"a"}), labels.Without(x.Labels, []string{"a"})}[group]
				mine := slices.DeleteFunc(slices.Clone(kept), func(y api.Value) bool {
					other := [][]api.Label{nil, labels.By(y.Labels, []string{"a"}), labels.Without(y.Labels, []string{"a"})}[group]
					return !labels.Same(set, other)
				})
				is := slices.ContainsFunc(mine, func(y api.Value) bool { return labels.Same(x.Labels, y.Labels) && rat.Same(x.V, y.V) })
				if len(mine) > k || !is && (len(mine) < k || slices.ContainsFunc(mine, func(y api.Value) bool {
					return f == api.AggTopk && byNumber(x, y) > 0 || f == api.AggBottomk && byNumber(x, y) < 0
				})) {
					t.Fatalf("%s: %s", show(l), show(kept))
				}
			}
		}
	}
}
