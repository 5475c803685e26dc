// Package sample makes expressions of all kinds. It serves the tests of the packages that work on expressions.
package sample

import (
	"driftnet/api"
	"driftnet/measure"
	"driftnet/rat"
)

// Pick returns a number from 0 to n - 1; the expressions depend only on what it returns.
type Pick func(n int) int

// Expr returns a well-formed expression that is not a log query, at most deep + 2 deep.
func (pick Pick) Expr(deep int) api.Expr {
	kind := pick(8)
	switch {
	case kind == 0:
		n, _ := rat.Div(rat.Of(pick(1000)-500), rat.Of([]int{1, 4, 10}[pick(3)]))
		return api.Expr{Kind: api.ExprNumber, V: n}
	case kind < 3 || deep <= 0:
		return pick.ranged()
	case kind < 5:
		return pick.vector(deep)
	}
	return pick.binary(deep)
}

// Log returns a well-formed log query.
func (pick Pick) Log() api.Expr {
	x := api.Expr{Kind: api.ExprLog}
	for range 1 + pick(3) {
		x.Matchers = append(x.Matchers, api.Matcher{Kind: 1 + pick(4), Name: pick.name(), Value: pick.text()})
	}
	for range pick(5) {
		x.Stages = append(x.Stages, pick.stage())
	}
	return x
}

func (pick Pick) ranged() api.Expr {
	x := api.Expr{Kind: api.ExprRange, Fn: 1 + pick(12), Over: 1 + pick(10_000_000), L: []api.Expr{pick.Log()}}
	if pick(2) == 0 {
		x.Back = pick(5000)
	}
	if x.Fn == api.FnQuantile {
		x.V, _ = rat.Div(rat.Of(pick(101)), rat.Of(100))
	}
	return x
}

func (pick Pick) vector(deep int) api.Expr {
	x := api.Expr{Kind: api.ExprVector, Fn: 1 + pick(9), L: []api.Expr{pick.Expr(deep - 1)}}
	if x.Fn < api.AggSort {
		x.Group, x.Names = pick.choice()
	}
	if x.Fn == api.AggTopk || x.Fn == api.AggBottomk {
		x.K = 1 + pick(1000)
	}
	return x
}

func (pick Pick) binary(deep int) api.Expr {
	x := api.Expr{Kind: api.ExprBinary, Op: api.OpEq + pick(13), L: []api.Expr{pick.Expr(deep - 1), pick.Expr(deep - 1)}}
	x.Bool = x.Op <= api.OpGe && pick(2) == 0
	x.Match, x.Names = pick.choice()
	if x.Match != api.MatchAll && x.Op < api.OpAnd {
		x.Side, x.Extra = pick.choice()
	}
	return x
}

// choice returns one of three ways to use names, and increasing names unless it is none.
func (pick Pick) choice() (int, []string) {
	way := pick(3)
	if way == 0 {
		return 0, nil
	}
	var names []string
	for _, name := range []string{"Z", "a", "b1", "by", "on"} {
		if pick(3) == 0 {
			names = append(names, name)
		}
	}
	return way, names
}

func (pick Pick) stage() api.Stage {
	s := api.Stage{Kind: 1 + pick(15)}
	switch s.Kind {
	case api.StageLogfmt, api.StageJSON:
	case api.StageCond:
		s.Cond = pick.Cond(3)
	case api.StageLabel:
		s.Name, s.Text = pick.name(), pick.text()
	case api.StageDrop, api.StageNumber, api.StageTime, api.StageSize:
		s.Name = pick.name()
	default:
		s.Text = pick.text()
	}
	return s
}

// Cond returns a well-formed condition, at most deep + 1 deep.
func (pick Pick) Cond(deep int) api.Cond {
	c := api.Cond{Kind: 1 + pick(6)}
	if deep <= 0 {
		c.Kind = 1 + pick(4)
	}
	switch c.Kind {
	case api.CondAnd, api.CondOr:
		c.L = []api.Cond{pick.Cond(deep - 1), pick.Cond(deep - 1)}
		return c
	case api.CondText:
		c.Op, c.Text = api.OpIs+pick(4), pick.text()
	case api.CondNumber:
		c.Op = api.OpEq + pick(6)
		c.V, _ = measure.Number([]string{"0", "5", "1.25", "100"}[pick(4)])
	default:
		c.Op, c.V = api.OpEq+pick(6), rat.Of(pick(100_000_000))
	}
	c.Name = pick.name()
	return c
}

func (pick Pick) name() string {
	return []string{"a", "b", "ms", "_x9", "duration", "bytes", "and", "or", "by", "sum", "rate", "offset", "bool"}[pick(13)]
}

func (pick Pick) text() string {
	return []string{"", "x", "a\"b", "é\n", "\xff", "`", "{{.a}}", "<a> <b>", "(?P<x>a)|b"}[pick(9)]
}
