package query

import (
	"strconv"
	"strings"

	"driftnet/api"
	"driftnet/measure"
	"driftnet/quote"
	"driftnet/rat"
	"driftnet/words"
)

// writer collects the text of a well-formed expression.
type writer struct {
	strings.Builder
}

func text(x api.Expr) string {
	var w writer
	w.expr(x)
	return w.String()
}

// put writes words with nothing between them.
func (w *writer) put(l ...string) {
	for _, s := range l {
		w.WriteString(s)
	}
}

// enclose puts parentheses around what write writes, where they are needed.
func (w *writer) enclose(needed bool, write func()) {
	if needed {
		w.put("(")
		defer func() { w.put(")") }()
	}
	write()
}

func (w *writer) expr(x api.Expr) {
	switch x.Kind {
	case api.ExprLog:
		w.log(x)
	case api.ExprRange:
		w.ranged(x)
	case api.ExprVector:
		w.vector(x)
	case api.ExprBinary:
		w.binary(x)
	case api.ExprNumber:
		w.put(number(x.V))
	}
}

func (w *writer) log(x api.Expr) {
	w.put("{")
	for i, m := range x.Matchers {
		if i > 0 {
			w.put(", ")
		}
		w.put(m.Name, words.Op(m.Kind), quote.Quote(m.Value))
	}
	w.put("}")
	for _, s := range x.Stages {
		w.put(" ")
		w.stage(s)
	}
}

func (w *writer) stage(s api.Stage) {
	quoted := quote.Quote(s.Text)
	switch s.Kind {
	case api.StageHas:
		w.put("|= ", quoted)
	case api.StageHasNot:
		w.put("!= ", quoted)
	case api.StageLike:
		w.put("|~ ", quoted)
	case api.StageOther:
		w.put("!~ ", quoted)
	case api.StageLogfmt:
		w.put("| logfmt")
	case api.StageJSON:
		w.put("| json")
	case api.StagePattern:
		w.put("| pattern ", quoted)
	case api.StageRegexp:
		w.put("| regexp ", quoted)
	case api.StageCond:
		w.put("| ")
		w.cond(s.Cond)
	case api.StageLine:
		w.put("| line_format ", quoted)
	case api.StageLabel:
		w.put("| label_format ", s.Name, " = ", quoted)
	case api.StageDrop:
		w.put("| drop ", s.Name)
	case api.StageNumber:
		w.put("| unwrap ", s.Name)
	case api.StageTime:
		w.put("| unwrap duration(", s.Name, ")")
	case api.StageSize:
		w.put("| unwrap bytes(", s.Name, ")")
	}
}

func (w *writer) cond(c api.Cond) {
	switch c.Kind {
	case api.CondText:
		w.put(c.Name, " ", words.Op(c.Op), " ", quote.Quote(c.Text))
		return
	case api.CondNumber, api.CondTime, api.CondSize:
		value, _ := measureText(c.Kind, c.V)
		w.put(c.Name, " ", words.Op(c.Op), " ", value)
		return
	}
	one, other := c.L[0], c.L[1]
	isAnd := c.Kind == api.CondAnd
	w.enclose(isAnd && one.Kind == api.CondOr, func() { w.cond(one) })
	if isAnd {
		w.put(" and ")
	} else {
		w.put(" or ")
	}
	w.enclose(other.Kind == api.CondOr || isAnd && other.Kind == api.CondAnd, func() { w.cond(other) })
}

func (w *writer) ranged(x api.Expr) {
	w.put(words.Range(x.Fn))
	w.enclose(true, func() {
		if x.Fn == api.FnQuantile {
			w.put(number(x.V), ", ")
		}
		w.expr(x.L[0])
		w.put("[", duration(x.Over), "]")
		if x.Back != 0 {
			w.put(" offset ", duration(x.Back))
		}
	})
}

func (w *writer) vector(x api.Expr) {
	w.put(words.Vector(x.Fn))
	switch x.Group {
	case api.GroupBy:
		w.put(" by ", names(x.Names), " ")
	case api.GroupWithout:
		w.put(" without ", names(x.Names), " ")
	}
	w.enclose(true, func() {
		if x.K != 0 {
			w.put(strconv.Itoa(x.K), ", ")
		}
		w.expr(x.L[0])
	})
}

func (w *writer) binary(x api.Expr) {
	strength := words.Strength(x.Op)
	one, other := x.L[0], x.L[1]
	w.enclose(one.Kind == api.ExprBinary && words.Strength(one.Op) < strength, func() { w.expr(one) })
	w.put(" ", words.Op(x.Op))
	if x.Bool {
		w.put(" bool")
	}
	switch x.Match {
	case api.MatchOn:
		w.put(" on ", names(x.Names))
	case api.MatchIgnoring:
		w.put(" ignoring ", names(x.Names))
	}
	switch x.Side {
	case api.SideLeft:
		w.put(" group_left ", names(x.Extra))
	case api.SideRight:
		w.put(" group_right ", names(x.Extra))
	}
	w.put(" ")
	w.enclose(other.Kind == api.ExprBinary && words.Strength(other.Op) <= strength, func() { w.expr(other) })
}

func names(l []string) string {
	return "(" + strings.Join(l, ", ") + ")"
}

func number(v api.Rat) string {
	s, _ := measure.WriteNumber(v)
	return s
}

func duration(milliseconds int) string {
	s, _ := measure.WriteTime(rat.Of(milliseconds))
	return s
}
