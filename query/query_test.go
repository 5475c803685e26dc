package query

import (
	"math/rand"
	"slices"
	"strconv"
	"strings"
	"testing"

	"driftnet/api"
	"driftnet/rat"
	"driftnet/sample"
)

func matcher(kind int, name, value string) api.Matcher {
	return api.Matcher{Kind: kind, Name: name, Value: value}
}

// log returns the log query {a="x"} with stages.
func log(stages ...api.Stage) api.Expr {
	return api.Expr{Kind: api.ExprLog, Matchers: []api.Matcher{matcher(1, "a", "x")}, Stages: stages}
}

func numeral(n, d int) api.Expr {
	return api.Expr{Kind: api.ExprNumber, V: ratio(n, d)}
}

func ratio(n, d int) api.Rat {
	r, _ := rat.Div(rat.Of(n), rat.Of(d))
	return r
}

func ranged(fn int, l api.Expr) api.Expr {
	return api.Expr{Kind: api.ExprRange, Fn: fn, Over: 300000, L: []api.Expr{l}}
}

func vector(fn int, x api.Expr) api.Expr {
	return api.Expr{Kind: api.ExprVector, Fn: fn, L: []api.Expr{x}}
}

func binary(op int, x, y api.Expr) api.Expr {
	return api.Expr{Kind: api.ExprBinary, Op: op, L: []api.Expr{x, y}}
}

// with returns x after a change.
func with(x api.Expr, change func(x *api.Expr)) api.Expr {
	x = Copy(x)
	change(&x)
	return x
}

func text1(name, text string) api.Cond {
	return api.Cond{Kind: api.CondText, Name: name, Op: api.OpIs, Text: text}
}

func cond(c api.Cond) api.Expr { return log(api.Stage{Kind: api.StageCond, Cond: c}) }

func both(kind int, a, b api.Cond) api.Cond {
	return api.Cond{Kind: kind, L: []api.Cond{a, b}}
}

// deepCond returns a condition of that depth.
func deepCond(depth int) api.Cond {
	c := text1("a", "")
	for range depth - 1 {
		c = both(api.CondAnd, c, text1("a", ""))
	}
	return c
}

var (
	one, two, three = numeral(1, 1), numeral(2, 1), numeral(3, 1)
	rate            = ranged(api.FnRate, log())
)

// TestWrite covers P21.1: the text of each kind of expression.
func TestWrite(t *testing.T) {
	names := func(l ...string) []string { return l }
	for want, x := range map[string]api.Expr{
		`{a="x"}`:                                                   log(),
		`{a="x", b!="\"", c=~".+", a!~""}`:                          {Kind: api.ExprLog, Matchers: []api.Matcher{matcher(1, "a", "x"), matcher(2, "b", "\""), matcher(3, "c", ".+"), matcher(4, "a", "")}},
		`{a="x"} |= "e" != "f" |~ "g" !~ "\n"`:                      log(api.Stage{Kind: 1, Text: "e"}, api.Stage{Kind: 2, Text: "f"}, api.Stage{Kind: 3, Text: "g"}, api.Stage{Kind: 4, Text: "\n"}),
		`{a="x"} | logfmt | json`:                                   log(api.Stage{Kind: 5}, api.Stage{Kind: 6}),
		`{a="x"} | pattern "<a>" | regexp "b" | line_format "c"`:    log(api.Stage{Kind: 7, Text: "<a>"}, api.Stage{Kind: 8, Text: "b"}, api.Stage{Kind: 10, Text: "c"}),
		`{a="x"} | label_format b = "c" | drop d`:                   log(api.Stage{Kind: 11, Name: "b", Text: "c"}, api.Stage{Kind: 12, Name: "d"}),
		`{a="x"} | unwrap b | unwrap duration(c) | unwrap bytes(d)`: log(api.Stage{Kind: 13, Name: "b"}, api.Stage{Kind: 14, Name: "c"}, api.Stage{Kind: 15, Name: "d"}),
		`{a="x"} | b = "c"`:                                         cond(text1("b", "c")),
		`{a="x"} | b !~ "c"`:                                        cond(api.Cond{Kind: api.CondText, Name: "b", Op: api.OpOther, Text: "c"}),
		`{a="x"} | b >= 1.5`:                                        cond(api.Cond{Kind: api.CondNumber, Name: "b", Op: api.OpGe, V: ratio(3, 2)}),
		`{a="x"} | b == 1m`:                                         cond(api.Cond{Kind: api.CondTime, Name: "b", Op: api.OpEq, V: rat.Of(60000)}),
		`{a="x"} | b != 5B`:                                         cond(api.Cond{Kind: api.CondSize, Name: "b", Op: api.OpNe, V: rat.Of(5)}),
		`{a="x"} | b < 0ms`:                                         cond(api.Cond{Kind: api.CondTime, Name: "b", Op: api.OpLt, V: rat.Of(0)}),
		`{a="x"} | (b = "c" or b = "c") and b = "c"`:                cond(both(api.CondAnd, both(api.CondOr, text1("b", "c"), text1("b", "c")), text1("b", "c"))),
		`{a="x"} | b = "c" and b = "c" or b = "c"`:                  cond(both(api.CondOr, both(api.CondAnd, text1("b", "c"), text1("b", "c")), text1("b", "c"))),
		`{a="x"} | b = "c" or b = "c" and b = "d"`:                  cond(both(api.CondOr, text1("b", "c"), both(api.CondAnd, text1("b", "c"), text1("b", "d")))),
		`{a="x"} | b = "c" or (b = "c" or b = "d")`:                 cond(both(api.CondOr, text1("b", "c"), both(api.CondOr, text1("b", "c"), text1("b", "d")))),
		`{a="x"} | b = "c" or b = "c" or b = "d"`:                   cond(both(api.CondOr, both(api.CondOr, text1("b", "c"), text1("b", "c")), text1("b", "d"))),
		`{a="x"} | b = "c" and (b = "c" and b = "d")`:               cond(both(api.CondAnd, text1("b", "c"), both(api.CondAnd, text1("b", "c"), text1("b", "d")))),
		`{a="x"} | b = "c" and (b = "c" or b = "d")`:                cond(both(api.CondAnd, text1("b", "c"), both(api.CondOr, text1("b", "c"), text1("b", "d")))),
		`rate({a="x"} | json[5m])`:                                  ranged(api.FnRate, log(api.Stage{Kind: 6})),
		`rate({a="x"}[5m] offset 1ms)`:                              with(rate, func(x *api.Expr) { x.Back = 1 }),
		`quantile_over_time(0.5, {a="x"}[5m])`:                      with(ranged(api.FnQuantile, log()), func(x *api.Expr) { x.V = ratio(1, 2) }),
		`sum(rate({a="x"}[5m]))`:                                    vector(api.AggSum, rate),
		`max by (a, b) (1)`:                                         with(vector(api.AggMax, one), func(x *api.Expr) { x.Group, x.Names = 1, names("a", "b") }),
		`topk without () (7, 1)`:                                    with(vector(api.AggTopk, one), func(x *api.Expr) { x.Group, x.K = 2, 7 }),
		`sort_desc(1)`:                                              vector(api.AggSortDesc, one),
		"1 - (2 - 3)":                                               binary(api.OpSub, one, binary(api.OpSub, two, three)),
		"1 - 2 - 3":                                                 binary(api.OpSub, binary(api.OpSub, one, two), three),
		"1 - 2 * 3":                                                 binary(api.OpSub, one, binary(api.OpMul, two, three)),
		"(1 - 2) * 3":                                               binary(api.OpMul, binary(api.OpSub, one, two), three),
		"1 * (2 * 3)":                                               binary(api.OpMul, one, binary(api.OpMul, two, three)),
		"1 + (2 - 3)":                                               binary(api.OpAdd, one, binary(api.OpSub, two, three)),
		"1 or 2 unless 3 == 1 + 2 / 3":                              binary(api.OpOr, one, binary(api.OpUnless, two, binary(api.OpEq, three, binary(api.OpAdd, one, binary(api.OpDiv, two, three))))),
		"(1 or 2) and 3":                                            binary(api.OpAnd, binary(api.OpOr, one, two), three),
		"1 and (2 unless 3)":                                        binary(api.OpAnd, one, binary(api.OpUnless, two, three)),
		"1 < bool 2":                                                with(binary(api.OpLt, one, two), func(x *api.Expr) { x.Bool = true }),
		"1 != bool on (a) group_left (b, c) 2":                      with(binary(api.OpNe, one, two), func(x *api.Expr) { x.Bool, x.Match, x.Names, x.Side, x.Extra = true, 1, names("a"), 1, names("b", "c") }),
		"1 * ignoring () group_right () 2":                          with(binary(api.OpMul, one, two), func(x *api.Expr) { x.Match, x.Side = 2, 2 }),
		"-0.25":                                                     numeral(-1, 4),
		"0":                                                         numeral(0, 1),
		"1 - -2":                                                    binary(api.OpSub, one, numeral(-2, 1)),
		"1 > -2 and on () 3":                                        with(binary(api.OpAnd, binary(api.OpGt, one, numeral(-2, 1)), three), func(x *api.Expr) { x.Match = 1 }),
	} {
		got, e := Write(x)
		if e != api.OK || got != want || Check(x) != api.OK {
			t.Errorf("%s: %s, %d", want, got, e)
		}
	}
	fns := ""
	for fn := 1; fn <= 12; fn++ {
		s, _ := Write(ranged(fn, log()))
		fns += s[:strings.IndexAny(s+"(", "(")] + " "
	}
	for fn := 1; fn <= 9; fn++ {
		x := vector(fn, one)
		if fn == api.AggTopk || fn == api.AggBottomk {
			x.K = 1
		}
		s, _ := Write(x)
		fns += s[:strings.Index(s, "(")] + " "
	}
	if fns != "count_over_time rate bytes_over_time bytes_rate absent_over_time sum_over_time avg_over_time min_over_time max_over_time first_over_time last_over_time  sum avg min max count topk bottomk sort sort_desc " {
		t.Error(fns)
	}
}

// bad returns expressions that are not well-formed.
func bad() map[string]api.Expr {
	many := make([]string, 17)
	for i := range many {
		many[i] = "a" + strconv.Itoa(10+i)
	}
	long := strings.Repeat("x", 257)
	log1 := func(change func(x *api.Expr)) api.Expr { return with(log(), change) }
	range1 := func(change func(x *api.Expr)) api.Expr { return with(rate, change) }
	quantile := func(v api.Rat) api.Expr {
		return with(ranged(api.FnQuantile, log()), func(x *api.Expr) { x.V = v })
	}
	by := func(names ...string) api.Expr {
		return with(vector(1, one), func(x *api.Expr) { x.Group, x.Names = 1, names })
	}
	on := func(op, side int, names, extra []string) api.Expr {
		return with(binary(op, one, two), func(x *api.Expr) { x.Match, x.Names, x.Side, x.Extra = 1, names, side, extra })
	}
	measured := func(kind, op int, v api.Rat) api.Expr {
		return cond(api.Cond{Kind: kind, Name: "a", Op: op, V: v})
	}
	stage := func(s api.Stage) api.Expr { return log(s) }
	return map[string]api.Expr{
		"nothing": {}, "kind 6": {Kind: 6}, "kind -1": {Kind: -1},
		"no matcher": {Kind: 1}, "17 matchers": {Kind: 1, Matchers: make([]api.Matcher, 17)}, "matcher kind 0": log1(func(x *api.Expr) { x.Matchers[0].Kind = 0 }), "matcher kind 5": log1(func(x *api.Expr) { x.Matchers[0].Kind = 5 }), "matcher name": log1(func(x *api.Expr) { x.Matchers[0].Name = "9" }), "matcher value": log1(func(x *api.Expr) { x.Matchers[0].Value = long }),
		"17 stages": log(make([]api.Stage, 17)...), "log fn": log1(func(x *api.Expr) { x.Fn = 1 }), "log L": log1(func(x *api.Expr) { x.L = []api.Expr{one} }), "log names": log1(func(x *api.Expr) { x.Names = []string{"a"} }), "log V": log1(func(x *api.Expr) { x.V = rat.Of(0) }),
		"stage 0": stage(api.Stage{}), "stage 16": stage(api.Stage{Kind: 16}), "stage long": stage(api.Stage{Kind: 1, Text: long}), "stage name": stage(api.Stage{Kind: 1, Name: "a"}), "json text": stage(api.Stage{Kind: 6, Text: "a"}), "label long": stage(api.Stage{Kind: 11, Name: "a", Text: long}), "label name": stage(api.Stage{Kind: 11, Name: ""}), "drop": stage(api.Stage{Kind: 12, Name: "a-b"}), "drop text": stage(api.Stage{Kind: 12, Name: "a", Text: "b"}), "unwrap": stage(api.Stage{Kind: 14}), "stage cond": stage(api.Stage{Kind: 5, Cond: text1("a", "")}), "cond text": stage(api.Stage{Kind: 9, Text: "a", Cond: text1("a", "")}), "no cond": stage(api.Stage{Kind: 9}),
		"cond kind": cond(api.Cond{Kind: 7, Name: "a", Op: 1}), "cond json": cond(text1("json", "")), "cond unwrap": measured(2, 4, rat.Of(1)), "cond name": cond(text1("9", "")), "cond long": cond(text1("a", long)), "cond op": cond(api.Cond{Kind: 1, Name: "a", Op: 5}), "cond V": cond(api.Cond{Kind: 1, Name: "a", Op: 1, V: rat.Of(1)}), "cond L": cond(api.Cond{Kind: 1, Name: "a", Op: 1, L: []api.Cond{text1("a", "")}}), "and of 1": cond(api.Cond{Kind: 5, L: []api.Cond{text1("a", "")}}), "and of 3": cond(api.Cond{Kind: 5, L: []api.Cond{text1("a", ""), text1("a", ""), text1("a", "")}}), "and name": cond(api.Cond{Kind: 5, Name: "a", L: []api.Cond{text1("a", ""), text1("a", "")}}), "and of bad": cond(both(6, text1("a", ""), text1("drop", ""))), "or of bad": cond(both(6, api.Cond{}, text1("a", ""))),
		"number op": measured(2, 11, rat.Of(1)), "number third": measured(2, 5, ratio(1, 3)), "number negative": measured(2, 5, rat.Of(-1)), "number invalid": measured(2, 5, api.Rat{}), "time half": measured(3, 5, ratio(1, 2)), "time negative": measured(3, 5, rat.Of(-1)), "size great": measured(4, 5, rat.Of(api.MaxNumber+1)), "size half": measured(4, 5, ratio(1, 2)), "number text": cond(api.Cond{Kind: 2, Name: "a", Op: 5, V: rat.Of(1), Text: "x"}), "number name": cond(api.Cond{Kind: 2, Name: "label_format", Op: 5, V: rat.Of(1)}),
		"fn 0": range1(func(x *api.Expr) { x.Fn = 0 }), "fn 13": range1(func(x *api.Expr) { x.Fn = 13 }), "over 0": range1(func(x *api.Expr) { x.Over = 0 }), "over great": range1(func(x *api.Expr) { x.Over = api.MaxNumber + 1 }), "back -1": range1(func(x *api.Expr) { x.Back = -1 }), "back great": range1(func(x *api.Expr) { x.Back = api.MaxNumber + 1 }), "range of 2": range1(func(x *api.Expr) { x.L = append(x.L, log()) }), "range of 0": range1(func(x *api.Expr) { x.L = nil }), "range of number": ranged(1, one), "range of bad": ranged(1, api.Expr{Kind: 1}), "range V": range1(func(x *api.Expr) { x.V = rat.Of(1) }), "range group": range1(func(x *api.Expr) { x.Group = 1 }), "range op": range1(func(x *api.Expr) { x.Op = 5 }),
		"quantile none": quantile(api.Rat{}), "quantile 2": quantile(rat.Of(2)), "quantile -1": quantile(rat.Of(-1)), "quantile third": quantile(ratio(1, 3)),
		"vector fn 0": vector(0, one), "vector fn 10": vector(10, one), "sum K": with(vector(1, one), func(x *api.Expr) { x.K = 1 }), "topk 0": vector(6, one), "topk 1001": with(vector(6, one), func(x *api.Expr) { x.K = 1001 }), "group 3": with(vector(1, one), func(x *api.Expr) { x.Group = 3 }), "group -1": with(vector(1, one), func(x *api.Expr) { x.Group = -1 }), "sort by": with(vector(8, one), func(x *api.Expr) { x.Group = 1 }), "names": with(vector(1, one), func(x *api.Expr) { x.Names = []string{"a"} }), "by order": by("b", "a"), "by twice": by("a", "a"), "by name": by("9"), "by 17": by(many...), "sum of log": vector(1, log()), "sum of 2": with(vector(1, one), func(x *api.Expr) { x.L = append(x.L, two) }), "sum of bad": vector(1, vector(0, one)), "vector bool": with(vector(1, one), func(x *api.Expr) { x.Bool = true }),
		"op 4": binary(4, one, two), "op 18": binary(18, one, two), "bool add": with(binary(api.OpAdd, one, two), func(x *api.Expr) { x.Bool = true }), "match 3": with(binary(11, one, two), func(x *api.Expr) { x.Match = 3 }), "side 3": on(11, 3, nil, nil), "side all": with(binary(11, one, two), func(x *api.Expr) { x.Side = 1 }), "side and": on(api.OpAnd, 1, nil, nil), "extra": on(11, 0, nil, []string{"a"}), "on order": on(11, 0, []string{"b", "a"}, nil), "extra order": on(11, 1, nil, []string{"b", "a"}), "extra 17": on(11, 1, nil, many), "all names": with(binary(11, one, two), func(x *api.Expr) { x.Names = []string{"a"} }), "binary of log": binary(11, one, log()), "binary of 1": {Kind: 4, Op: 11, L: []api.Expr{one}}, "binary fn": with(binary(11, one, two), func(x *api.Expr) { x.Fn = 1 }),
		"third": {Kind: 5, V: ratio(1, 3)}, "no number": {Kind: 5}, "number L": {Kind: 5, V: rat.Of(1), L: []api.Expr{one}}, "number K": {Kind: 5, V: rat.Of(1), K: 1},
	}
}

// TestCheck covers P21.1: expressions that are not well-formed, too deep, or too long.
func TestCheck(t *testing.T) {
	for name, x := range bad() {
		if s, e := Write(x); e != api.ErrQuery || s != "" || Check(x) != api.ErrQuery {
			t.Errorf("%s: %s, %d", name, s, e)
		}
	}
	chain := func(depth int) api.Expr {
		x := one
		for range depth - 1 {
			x = binary(api.OpAdd, x, one)
		}
		return x
	}
	sums := rate
	for range 18 {
		sums = vector(1, sums)
	}
	long := log()
	for len(long.Stages) < 15 {
		long.Stages = append(long.Stages, api.Stage{Kind: 1, Text: strings.Repeat("x", 256)})
	}
	fits := with(long, func(x *api.Expr) { x.Stages = append(x.Stages, api.Stage{Kind: 1, Text: strings.Repeat("x", 153)}) })
	for name, c := range map[string]struct {
		x     api.Expr
		e     api.Errno
		depth int
	}{
		"20 deep": {chain(20), api.OK, 20}, "21 deep": {chain(21), api.ErrDepth, 21}, "21 deep and bad": {binary(99, chain(20), one), api.ErrDepth, 21}, "range 20 deep": {sums, api.OK, 20}, "range 21 deep": {vector(1, sums), api.ErrDepth, 21},
		"condition 20 deep": {cond(deepCond(20)), api.OK, 1}, "condition 21 deep": {cond(deepCond(21)), api.ErrDepth, 1}, "condition 21 deep inside": {vector(1, ranged(1, cond(deepCond(21)))), api.ErrDepth, 3}, "bad and deep": {binary(11, api.Expr{}, ranged(1, cond(deepCond(21)))), api.ErrDepth, 3},
		"16 matchers": {with(log(), func(x *api.Expr) { x.Matchers = slices.Repeat(x.Matchers, 16) }), api.OK, 1}, "17 matchers": {with(log(), func(x *api.Expr) { x.Matchers = slices.Repeat(x.Matchers, 17) }), api.ErrQuery, 1}, "16 stages": {log(slices.Repeat([]api.Stage{{Kind: 5}}, 16)...), api.OK, 1}, "17 stages": {log(slices.Repeat([]api.Stage{{Kind: 5}}, 17)...), api.ErrQuery, 1},
		"shortest range": {with(rate, func(x *api.Expr) { x.Over = 1 }), api.OK, 2}, "longest range": {with(rate, func(x *api.Expr) { x.Over, x.Back = api.MaxNumber, api.MaxNumber }), api.OK, 2}, "topk 1000": {with(vector(6, one), func(x *api.Expr) { x.K = 1000 }), api.OK, 2}, "16 names": {with(vector(1, one), func(x *api.Expr) { x.Group, x.Names = 1, strings.Fields("a b c d e f g h i j k l m n o p") }), api.OK, 2}, "17 names": {with(vector(1, one), func(x *api.Expr) { x.Group, x.Names = 1, strings.Fields("a b c d e f g h i j k l m n o p q") }), api.ErrQuery, 2},
		"texts of 256 bytes": {with(log(api.Stage{Kind: 1, Text: strings.Repeat("x", 256)}, api.Stage{Kind: 11, Name: "a", Text: strings.Repeat("x", 256)}), func(x *api.Expr) { x.Matchers[0].Value = strings.Repeat("x", 256) }), api.OK, 1}, "a number without digits": {cond(api.Cond{Kind: 1, Name: "a", Op: 1, V: api.Rat{Num: []uint32{1}}}), api.ErrQuery, 1}, "a sign alone": {cond(api.Cond{Kind: 1, Name: "a", Op: 1, V: api.Rat{Neg: true}}), api.ErrQuery, 1},
		"4096 bytes": {fits, api.OK, 1}, "4097 bytes": {with(fits, func(x *api.Expr) { x.Stages[15].Text += "x" }), api.ErrLimit, 1}, "nothing": {api.Expr{}, api.ErrQuery, 1},
	} {
		s, e := Write(c.x)
		if e != c.e || (s == "") != (e != api.OK) || Check(c.x) != c.e || Depth(c.x) != c.depth {
			t.Errorf("%s: %d bytes, %d, %d deep", name, len(s), e, Depth(c.x))
		}
	}
	if s, _ := Write(fits); len(s) != 4096 {
		t.Errorf("%d bytes", len(s))
	}
}

// TestSame covers P21.2: every field counts, and copies share nothing.
func TestSame(t *testing.T) {
	rich := func() api.Expr {
		x := with(binary(api.OpAdd, with(ranged(api.FnQuantile, cond(both(5, text1("b", "c"), api.Cond{Kind: 2, Name: "d", Op: 5, V: ratio(7, 2)}))), func(x *api.Expr) { x.V = ratio(1, 2) }), with(vector(6, three), func(x *api.Expr) { x.K, x.Group, x.Names = 3, 1, []string{"a", "b"} })), func(x *api.Expr) {
			x.Match, x.Names, x.Side, x.Extra = 1, []string{"c"}, 1, []string{"d"}
		})
		return x
	}
	base := rich()
	for i, change := range []func(x *api.Expr){
		func(x *api.Expr) { x.Kind = 9 }, func(x *api.Expr) { x.Op++ }, func(x *api.Expr) { x.Bool = true }, func(x *api.Expr) { x.Match = 2 }, func(x *api.Expr) { x.Names[0] = "x" }, func(x *api.Expr) { x.Side = 2 }, func(x *api.Expr) { x.Extra[0] = "x" }, func(x *api.Expr) { x.Names = nil }, func(x *api.Expr) { x.L = x.L[:1] },
		func(x *api.Expr) { x.L[0].Over++ }, func(x *api.Expr) { x.L[0].Back++ }, func(x *api.Expr) { x.L[0].Fn++ }, func(x *api.Expr) { x.L[0].V.Num[0] = 9 }, func(x *api.Expr) { x.L[0].V.Den[0] = 9 }, func(x *api.Expr) { x.L[0].V.Neg = true }, func(x *api.Expr) { x.L[1].K++ }, func(x *api.Expr) { x.L[1].Group++ }, func(x *api.Expr) { x.L[1].Names[1] = "x" }, func(x *api.Expr) { x.L[1].L[0].V.Num[0] = 9 },
		func(x *api.Expr) { x.L[0].L[0].Matchers[0].Kind = 2 }, func(x *api.Expr) { x.L[0].L[0].Matchers[0].Name = "b" }, func(x *api.Expr) { x.L[0].L[0].Matchers[0].Value = "b" }, func(x *api.Expr) { x.L[0].L[0].Stages[0].Kind = 1 }, func(x *api.Expr) { x.L[0].L[0].Stages[0].Text = "x" }, func(x *api.Expr) { x.L[0].L[0].Stages[0].Name = "x" },
		func(x *api.Expr) { x.L[0].L[0].Stages[0].Cond.Kind = 6 }, func(x *api.Expr) { x.L[0].L[0].Stages[0].Cond.L[0].Name = "x" }, func(x *api.Expr) { x.L[0].L[0].Stages[0].Cond.L[0].Text = "x" }, func(x *api.Expr) { x.L[0].L[0].Stages[0].Cond.L[0].Op = 2 }, func(x *api.Expr) { x.L[0].L[0].Stages[0].Cond.L[1].V.Num[0] = 9 }, func(x *api.Expr) { x.L[0].L[0].Stages[0].Cond.L = nil },
	} {
		other := Copy(base)
		if !Same(base, other) || !Same(other, rich()) {
			t.Fatal("a copy is not the same")
		}
		if change(&other); Same(base, other) || Same(other, base) || !Same(base, rich()) {
			t.Errorf("change %d", i)
		}
	}
	if !Same(api.Expr{}, api.Expr{Names: []string{}, L: []api.Expr{}}) {
		t.Error("nil and empty lists are equivalent")
	}
}

// TestLaws covers P21.3 and P21.4: texts tell expressions apart, with balanced brackets.
func TestLaws(t *testing.T) {
	random := rand.New(rand.NewSource(21))
	pick := sample.Pick(random.Intn)
	known := map[string]api.Expr{}
	for range 5000 {
		x := pick.Expr(random.Intn(4))
		if random.Intn(5) == 0 {
			x = pick.Log()
		}
		s, e := Write(x)
		if e == api.ErrLimit {
			continue
		}
		if e != api.OK || len(s) > 4096 {
			t.Fatalf("%+v: %d", x, e)
		}
		if y, ok := known[s]; ok && !Same(x, y) {
			t.Fatalf("%s: %+v, %+v", s, x, y)
		}
		known[s] = x
		if !isBalanced(s) {
			t.Fatalf("%s", s)
		}
	}
}

// isBalanced looks at brackets outside of quotes.
func isBalanced(s string) bool {
	var open []byte
	for i := 0; i < len(s); i++ {
		switch c := s[i]; c {
		case '"':
			for i++; s[i] != '"'; i++ {
				if s[i] == '\\' {
					i++
				}
			}
		case '(', '[', '{':
			open = append(open, c)
		case ')', ']', '}':
			last := len(open) - 1
			if last < 0 || strings.IndexByte("([{", open[last]) != strings.IndexByte(")]}", c) {
				return false
			}
			open = open[:last]
		}
	}
	return len(open) == 0
}
