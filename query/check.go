package query

import (
	"driftnet/api"
	"driftnet/labels"
	"driftnet/measure"
	"driftnet/rat"
	"driftnet/words"
)

const (
	mostMatchers = 16
	mostNames    = 16
	mostK        = 1000
)

// isExpr reports whether x is well-formed, with all its parts.
func isExpr(x api.Expr) bool {
	checks := [...]func(api.Expr) bool{
		api.ExprLog:    isLog,
		api.ExprRange:  isRange,
		api.ExprVector: isVector,
		api.ExprBinary: isBinary,
		api.ExprNumber: isNumber,
	}
	return x.Kind >= api.ExprLog && x.Kind < len(checks) && checks[x.Kind](x)
}

// Each of the following checks clears the fields that its kind may use, after it has looked at them; the others must be zero.

func isLog(x api.Expr) bool {
	if len(x.Matchers) < 1 || len(x.Matchers) > mostMatchers || len(x.Stages) > api.MaxStages {
		return false
	}
	for _, m := range x.Matchers {
		if m.Kind < api.MatchIs || m.Kind > api.MatchOther || !labels.IsName(m.Name) || !isShort(m.Value) {
			return false
		}
	}
	for _, s := range x.Stages {
		if !isStage(s) {
			return false
		}
	}
	x.Kind, x.Matchers, x.Stages = 0, nil, nil
	return isZeroExpr(x)
}

func isRange(x api.Expr) bool {
	if x.Fn < api.FnCount || x.Fn > api.FnQuantile || x.Over < 1 || x.Over > api.MaxNumber || x.Back < 0 || x.Back > api.MaxNumber {
		return false
	}
	if len(x.L) != 1 || x.L[0].Kind != api.ExprLog || !isExpr(x.L[0]) {
		return false
	}
	if x.Fn == api.FnQuantile {
		if order, _ := rat.Cmp(x.V, rat.Of(1)); !isDecimal(x.V) || x.V.Neg || order > 0 {
			return false
		}
		x.V = api.Rat{}
	}
	x.Kind, x.Fn, x.Over, x.Back, x.L = 0, 0, 0, 0, nil
	return isZeroExpr(x)
}

func isVector(x api.Expr) bool {
	if x.Fn < api.AggSum || x.Fn > api.AggSortDesc || !areParts(x.L, 1) || !isChoice(x.Group) {
		return false
	}
	switch x.Fn {
	case api.AggTopk, api.AggBottomk:
		if x.K < 1 || x.K > mostK {
			return false
		}
		x.K = 0
	case api.AggSort, api.AggSortDesc:
		if x.Group != api.GroupAll {
			return false
		}
	}
	if x.Group != api.GroupAll {
		if !areNames(x.Names) {
			return false
		}
		x.Group, x.Names = 0, nil
	}
	x.Kind, x.Fn, x.L = 0, 0, nil
	return isZeroExpr(x)
}

func isBinary(x api.Expr) bool {
	if x.Op < api.OpEq || x.Op > api.OpUnless || !areParts(x.L, 2) || !isChoice(x.Match) || !isChoice(x.Side) {
		return false
	}
	if x.Bool && x.Op > api.OpGe || x.Side != api.SideOne && (x.Match == api.MatchAll || x.Op >= api.OpAnd) {
		return false
	}
	if x.Match != api.MatchAll {
		if !areNames(x.Names) {
			return false
		}
		x.Match, x.Names = 0, nil
	}
	if x.Side != api.SideOne {
		if !areNames(x.Extra) {
			return false
		}
		x.Side, x.Extra = 0, nil
	}
	x.Kind, x.Op, x.Bool, x.L = 0, 0, false, nil
	return isZeroExpr(x)
}

func isNumber(x api.Expr) bool {
	if !isDecimal(x.V) {
		return false
	}
	x.Kind, x.V = 0, api.Rat{}
	return isZeroExpr(x)
}

// areParts reports whether l has so many expressions, well-formed and none of them a log query.
func areParts(l []api.Expr, count int) bool {
	for _, part := range l {
		if part.Kind == api.ExprLog || !isExpr(part) {
			return false
		}
	}
	return len(l) == count
}

func isStage(s api.Stage) bool {
	switch s.Kind {
	case api.StageHas, api.StageHasNot, api.StageLike, api.StageOther, api.StagePattern, api.StageRegexp, api.StageLine:
		if !isShort(s.Text) {
			return false
		}
		s.Text = ""
	case api.StageLabel:
		if !isShort(s.Text) || !labels.IsName(s.Name) {
			return false
		}
		s.Text, s.Name = "", ""
	case api.StageDrop, api.StageNumber, api.StageTime, api.StageSize:
		if !labels.IsName(s.Name) {
			return false
		}
		s.Name = ""
	case api.StageCond:
		if !isCond(s.Cond) {
			return false
		}
		s.Cond = api.Cond{}
	case api.StageLogfmt, api.StageJSON:
	default:
		return false
	}
	return s.Text == "" && s.Name == "" && isZeroCond(s.Cond)
}

func isCond(c api.Cond) bool {
	switch c.Kind {
	case api.CondText:
		if !isCondName(c.Name) || c.Op < api.OpIs || c.Op > api.OpOther || !isShort(c.Text) {
			return false
		}
		c.Name, c.Op, c.Text = "", 0, ""
	case api.CondNumber, api.CondTime, api.CondSize:
		if !isCondName(c.Name) || c.Op < api.OpEq || c.Op > api.OpGe || !isMeasure(c.Kind, c.V) {
			return false
		}
		c.Name, c.Op, c.V = "", 0, api.Rat{}
	case api.CondAnd, api.CondOr:
		if len(c.L) != 2 || !isCond(c.L[0]) || !isCond(c.L[1]) {
			return false
		}
		c.L = nil
	default:
		return false
	}
	c.Kind = 0
	return isZeroCond(c)
}

func isCondName(name string) bool {
	return labels.IsName(name) && !words.StartsStage(name)
}

// isMeasure reports whether a condition of that kind may compare with v.
func isMeasure(kind int, v api.Rat) bool {
	if v.Neg {
		return false
	}
	_, e := measureText(kind, v)
	return e == api.OK
}

// measureText returns the text of the number of a condition.
func measureText(kind int, v api.Rat) (string, api.Errno) {
	switch kind {
	case api.CondTime:
		return measure.WriteTime(v)
	case api.CondSize:
		return measure.WriteSize(v)
	}
	return measure.WriteNumber(v)
}

func isDecimal(v api.Rat) bool {
	_, e := measure.WriteNumber(v)
	return e == api.OK
}

func isShort(s string) bool {
	return len(s) <= api.MaxValue
}

// isChoice reports whether n is one of the three choices of Group, Match and Side.
func isChoice(n int) bool {
	return n >= 0 && n <= 2
}

// areNames reports whether l is a list of strictly increasing names.
func areNames(l []string) bool {
	for i, name := range l {
		if !labels.IsName(name) || i > 0 && name <= l[i-1] {
			return false
		}
	}
	return len(l) <= mostNames
}

func isZeroCond(c api.Cond) bool {
	return c.Kind == 0 && c.Name == "" && c.Op == 0 && c.Text == "" && rat.Same(c.V, api.Rat{}) && len(c.L) == 0
}

func isZeroExpr(x api.Expr) bool {
	return Same(x, api.Expr{})
}
