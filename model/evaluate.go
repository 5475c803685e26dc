package model

import (
	"maps"
	"slices"

	"driftnet/api"
	"driftnet/labels"
	"driftnet/match"
	"driftnet/numbers"
	"driftnet/rat"
	"driftnet/vector"
	"driftnet/window"
)

// samples are the results of a range with the same labels, in order.
type samples struct {
	labels []api.Label
	list   []window.Sample
}

// instant is a time at which parts are evaluated.
type instant int

// entries returns the entries of a range.
func (t instant) entries(p *part) []placed {
	last := int(t) - p.Back
	return between(p.entries, last-p.Over+1, last+1)
}

// evaluate returns the number or the values of a part; false if it is a number that does not exist.
func (t instant) evaluate(p *part) (match.Side, bool, api.Errno) {
	var l []api.Value
	var e api.Errno
	switch p.Kind {
	case api.ExprNumber:
		return match.Side{IsNumber: true, V: numbers.Copy(p.V)}, true, api.OK
	case api.ExprRange:
		l, e = t.ranged(p)
	case api.ExprVector:
		l, e = t.vector(p)
	case api.ExprBinary:
		return t.binary(p)
	}
	if e != api.OK {
		return match.Side{}, false, e
	}
	return match.Side{L: l}, true, api.OK
}

// ranged returns the values of a function over a range.
func (t instant) ranged(p *part) ([]api.Value, api.Errno) {
	series := t.series(p)
	if len(series) > api.MaxSeries {
		return nil, api.ErrSeries
	}
	if len(series) == 0 && p.Fn == api.FnAbsent {
		return []api.Value{{V: rat.Of(1)}}, api.OK
	}
	sorted := slices.SortedFunc(maps.Values(series), func(a, b samples) int { return labels.Compare(a.labels, b.labels) })
	var out []api.Value
	for _, s := range sorted {
		v, is, e := window.Run(p.Fn, p.Over, p.V, s.list)
		if e != api.OK {
			return nil, e
		}
		if is {
			out = append(out, api.Value{Labels: s.labels, V: v})
		}
	}
	return out, api.OK
}

// series groups the results of a range by their labels.
func (t instant) series(p *part) map[string]samples {
	series := map[string]samples{}
	for _, x := range t.entries(p) {
		out, ok := p.pipe.Run(x.labels, x.Line)
		if !ok || p.Fn >= api.FnSum && !out.Has {
			continue
		}
		key := labels.Key(out.Labels)
		s := series[key]
		s.labels = out.Labels
		s.list = append(s.list, window.Sample{At: x.At, Bytes: len(out.Line), V: out.V})
		series[key] = s
	}
	return series
}

// vector returns the values of a function over series, by increasing labels.
func (t instant) vector(p *part) ([]api.Value, api.Errno) {
	sides, _, e := each(p.parts, t.evaluate)
	if e != api.OK {
		return nil, e
	}
	l, e := vector.Run(p.Expr, sides[0].L)
	if e != api.OK {
		return nil, e
	}
	slices.SortFunc(l, func(a, b api.Value) int { return labels.Compare(a.Labels, b.Labels) })
	return limited(l)
}

// binary returns the result of an operator.
func (t instant) binary(p *part) (match.Side, bool, api.Errno) {
	sides, missing, e := each(p.parts, t.evaluate)
	if e != api.OK {
		return match.Side{}, false, e
	}
	if missing > 0 {
		// Without a number there is none, or no values if the other part has values.
		areNumbers := !slices.ContainsFunc(p.parts, func(inner *part) bool { return inner.isSeries() })
		return match.Side{}, !areNumbers, api.OK
	}
	side, is, e := match.Run(p.Expr, sides[0], sides[1])
	if e == api.OK {
		_, e = limited(side.L)
	}
	if e != api.OK {
		return match.Side{}, false, e
	}
	return side, is, api.OK
}

// each evaluates parts, the left one first; missing is how many of them are numbers that do not exist.
func each(l []*part, evaluate func(*part) (match.Side, bool, api.Errno)) (sides []match.Side, missing int, e api.Errno) {
	for _, p := range l {
		side, is, e := evaluate(p)
		if e != api.OK {
			return nil, 0, e
		}
		if !is {
			missing++
		}
		sides = append(sides, side)
	}
	return sides, missing, api.OK
}

// isSeries reports whether a part has values, not a number: it does if there is a range in it.
func (p *part) isSeries() bool {
	return p.Kind == api.ExprRange || slices.ContainsFunc(p.parts, func(inner *part) bool { return inner.isSeries() })
}

// limited returns values unless there are too many.
func limited(l []api.Value) ([]api.Value, api.Errno) {
	if len(l) > api.MaxSeries {
		return nil, api.ErrSeries
	}
	return l, api.OK
}
