package model

import (
	"slices"

	"driftnet/api"
	"driftnet/kinds"
	"driftnet/labels"
	"driftnet/match"
	"driftnet/parse"
	"driftnet/pipe"
)

// question is a request that is valid, with its query.
type question struct {
	model *Model
	ask   api.Ask
	root  *part
	isLog bool
}

// part is a part of a query; a range, or a log query as a whole, has its entries and its pipeline.
type part struct {
	api.Expr
	parts   []*part
	entries []placed
	pipe    *pipe.Pipe
}

// Ask returns the answer to a request.
func (m *Model) Ask(a api.Ask) api.Answer {
	q, at, e := m.question(a)
	if e != api.OK {
		return api.Answer{Err: e, At: at}
	}
	if q.touched() > api.MaxTouch {
		return api.Answer{Err: api.ErrTouch}
	}
	if q.isLog {
		return api.Answer{Rows: q.rows()}
	}
	l, e := q.series()
	if e != api.OK {
		return api.Answer{Err: e}
	}
	return api.Answer{Series: l}
}

// Touched returns how many entries the query of a request touches.
func (m *Model) Touched(a api.Ask) (int, api.Errno) {
	q, _, e := m.question(a)
	if e != api.OK {
		return 0, e
	}
	return q.touched(), api.OK
}

// question returns the first of the errors that do not depend on the entries, with its offset.
func (m *Model) question(a api.Ask) (q question, at int, e api.Errno) {
	if m.isNone() {
		return question{}, 0, api.ErrNil
	}
	if !isValid(a) {
		return question{}, 0, api.ErrArg
	}
	x, at, e := parse.Parse(a.Text)
	if e != api.OK {
		return question{}, at, e
	}
	kind, e := kinds.Of(x)
	if e != api.OK {
		return question{}, 0, e
	}
	q = question{model: m, ask: a, isLog: kind == kinds.Log}
	if !q.isLog && (a.End-a.Start)/a.Step >= api.MaxSteps {
		return question{}, 0, api.ErrSteps
	}
	if q.root, e = m.part(x); e != api.OK {
		return question{}, 0, e
	}
	return q, 0, api.OK
}

func isValid(a api.Ask) bool {
	return a.Start >= -api.MaxNumber && a.End <= api.MaxNumber && a.Start <= a.End &&
		a.Step >= 1 && a.Step <= api.MaxNumber && a.Limit >= 0 && a.Limit <= MaxRows
}

// part returns an expression with the entries of its ranges.
func (m *Model) part(x api.Expr) (*part, api.Errno) {
	p := &part{Expr: x}
	log := x
	switch x.Kind {
	case api.ExprLog:
	case api.ExprRange:
		log = x.L[0]
	default:
		for _, inner := range x.L {
			one, e := m.part(inner)
			if e != api.OK {
				return nil, e
			}
			p.parts = append(p.parts, one)
		}
		return p, api.OK
	}
	var e api.Errno
	if p.pipe, e = pipe.New(log.Stages); e != api.OK {
		return nil, e
	}
	p.entries = m.selected(log.Matchers)
	return p, api.OK
}

// instants returns the times at which a metric query is evaluated.
func (q question) instants() []int {
	var l []int
	for at := q.ask.Start; at <= q.ask.End; at += q.ask.Step {
		l = append(l, at)
	}
	return l
}

// touched returns how many entries the query touches.
func (q question) touched() int {
	if q.isLog {
		return len(between(q.root.entries, q.ask.Start, q.ask.End))
	}
	total := 0
	for _, at := range q.instants() {
		total += instant(at).touched(q.root)
	}
	return total
}

// touched returns how many entries the ranges of a part have.
func (t instant) touched(p *part) int {
	if p.Kind == api.ExprRange {
		return len(t.entries(p))
	}
	total := 0
	for _, inner := range p.parts {
		total += t.touched(inner)
	}
	return total
}

// rows returns the last results of a log query.
func (q question) rows() []api.Row {
	var l []api.Row
	for _, x := range between(q.root.entries, q.ask.Start, q.ask.End) {
		if out, ok := q.root.pipe.Run(x.labels, x.Line); ok {
			l = append(l, api.Row{At: x.At, Line: out.Line, Labels: out.Labels})
		}
	}
	return slices.Clone(l[max(0, len(l)-q.ask.Limit):])
}

// series returns the points of a metric query, instant by instant.
func (q question) series() ([]api.Series, api.Errno) {
	byKey := map[string]int{}
	var l []api.Series
	for _, at := range q.instants() {
		side, is, e := instant(at).evaluate(q.root)
		if e != api.OK {
			return nil, e
		}
		for _, value := range valuesOf(side, is) {
			key := labels.Key(value.Labels)
			i, known := byKey[key]
			if !known {
				i = len(l)
				byKey[key] = i
				l = append(l, api.Series{Labels: value.Labels})
			}
			l[i].Points = append(l[i].Points, api.Point{At: at, V: value.V})
		}
	}
	if len(l) > api.MaxSeries {
		return nil, api.ErrSeries
	}
	slices.SortFunc(l, func(a, b api.Series) int { return labels.Compare(a.Labels, b.Labels) })
	return l, api.OK
}

// valuesOf returns the values of a part; a number is one without labels.
func valuesOf(side match.Side, is bool) []api.Value {
	switch {
	case !is:
		return nil
	case side.IsNumber:
		return []api.Value{{V: side.V}}
	}
	return side.L
}
