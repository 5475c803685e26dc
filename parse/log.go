package parse

import (
	"driftnet/api"
	"driftnet/lex"
	"driftnet/measure"
	"driftnet/rat"
	"driftnet/words"
)

// log reads a selector and its stages.
func (p *parser) log() api.Expr {
	x := api.Expr{Kind: api.ExprLog}
	p.expect("{")
	for more := true; more; more = p.expect(",", "}") == "," {
		name := p.expectKind(lex.Word).Text
		kind := words.FindOp(p.expect("=", "!=", "=~", "!~"), api.OpIs, api.OpOther)
		x.Matchers = append(x.Matchers, api.Matcher{Kind: kind, Name: name, Value: p.expectKind(lex.Text).Text})
	}
	for p.comes("|=", "!=", "|~", "!~", "|") {
		x.Stages = append(x.Stages, p.stage())
	}
	return x
}

func (p *parser) stage() api.Stage {
	kind := 0
	switch p.expect("|=", "!=", "|~", "!~", "|") {
	case "|=":
		kind = api.StageHas
	case "!=":
		kind = api.StageHasNot
	case "|~":
		kind = api.StageLike
	case "!~":
		kind = api.StageOther
	}
	if kind > 0 {
		return p.withText(kind)
	}
	if read, ok := p.stages[p.keyword()]; ok {
		p.next()
		return read(p)
	}
	return api.Stage{Kind: api.StageCond, Cond: p.cond()}
}

// stages returns what reads the rest of a stage, by the words with which stages start.
func stages() map[string]func(*parser) api.Stage {
	return map[string]func(*parser) api.Stage{
		"logfmt":       (*parser).logfmt,
		"json":         (*parser).json,
		"pattern":      (*parser).pattern,
		"regexp":       (*parser).regexp,
		"line_format":  (*parser).lineFormat,
		"label_format": (*parser).labelFormat,
		"drop":         (*parser).drop,
		"unwrap":       (*parser).unwrap,
	}
}

func (p *parser) withText(kind int) api.Stage {
	return api.Stage{Kind: kind, Text: p.expectKind(lex.Text).Text}
}

func (p *parser) logfmt() api.Stage     { return api.Stage{Kind: api.StageLogfmt} }
func (p *parser) json() api.Stage       { return api.Stage{Kind: api.StageJSON} }
func (p *parser) pattern() api.Stage    { return p.withText(api.StagePattern) }
func (p *parser) regexp() api.Stage     { return p.withText(api.StageRegexp) }
func (p *parser) lineFormat() api.Stage { return p.withText(api.StageLine) }

func (p *parser) labelFormat() api.Stage {
	name := p.expectKind(lex.Word).Text
	p.expect("=")
	s := p.withText(api.StageLabel)
	s.Name = name
	return s
}

func (p *parser) drop() api.Stage {
	return api.Stage{Kind: api.StageDrop, Name: p.expectKind(lex.Word).Text}
}

func (p *parser) unwrap() api.Stage {
	word := p.expectKind(lex.Word).Text
	kind := api.StageNumber
	switch {
	// Without a parenthesis both words are names of labels.
	case word == "duration" && p.comes("("):
		kind = api.StageTime
	case word == "bytes" && p.comes("("):
		kind = api.StageSize
	default:
		return api.Stage{Kind: kind, Name: word}
	}
	p.expect("(")
	name := p.expectKind(lex.Word).Text
	p.expect(")")
	return api.Stage{Kind: kind, Name: name}
}

func (p *parser) cond() api.Cond {
	c := p.both()
	for p.skip("or") {
		c = api.Cond{Kind: api.CondOr, L: []api.Cond{c, p.both()}}
	}
	return c
}

func (p *parser) both() api.Cond {
	c := p.one()
	for p.skip("and") {
		c = api.Cond{Kind: api.CondAnd, L: []api.Cond{c, p.one()}}
	}
	return c
}

func (p *parser) one() api.Cond {
	if p.skip("(") {
		c := p.cond()
		p.expect(")")
		return c
	}
	name := p.comingKind(lex.Word).Text
	if words.StartsStage(name) {
		p.fail()
	}
	p.next()
	sign := p.expect("=", "!=", "=~", "!~", "==", "<", "<=", ">", ">=")
	text, order := words.FindOp(sign, api.OpIs, api.OpOther), words.FindOp(sign, api.OpEq, api.OpGe)
	if text > 0 && (order == 0 || p.comesKind(lex.Text)) {
		return api.Cond{Kind: api.CondText, Name: name, Op: text, Text: p.expectKind(lex.Text).Text}
	}
	c := api.Cond{Name: name, Op: order}
	c.Kind, c.V = p.measure()
	return c
}

// measure reads a number, a duration or a size, and returns the kind of condition that compares with it.
func (p *parser) measure() (kind int, v api.Rat) {
	switch p.comingKind(lex.Number, lex.Duration, lex.Size).Kind {
	case lex.Number:
		return api.CondNumber, p.number()
	case lex.Duration:
		return api.CondTime, rat.Of(p.whole(lex.Duration, measure.Time))
	}
	return api.CondSize, rat.Of(p.whole(lex.Size, measure.Size))
}
