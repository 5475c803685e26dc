package engine

import (
	"maps"
	"slices"

	"driftnet/api"
	"driftnet/labels"
	"driftnet/match"
	"driftnet/rat"
	"driftnet/vector"
	"driftnet/window"
)

// result is what a part is at an instant: a number or values, or an error.
type result struct {
	match.Side
	isMissing bool // a number that does not exist
	e         api.Errno
}

func ofValues(l []api.Value, e api.Errno) result {
	if e == api.OK && len(l) > api.MaxSeries {
		e = api.ErrSeries
	}
	if e != api.OK {
		return result{e: e}
	}
	return result{Side: match.Side{L: l}}
}

// values returns the values of a result; a number is one without labels.
func (r result) values() []api.Value {
	switch {
	case r.e != api.OK || r.isMissing:
		return nil
	case r.IsNumber:
		return []api.Value{{V: r.V}}
	}
	return r.L
}

// group is the samples of a range that have the same labels, in order.
type group struct {
	labels []api.Label
	list   []window.Sample
}

// evaluate returns the result of a part at an instant.
func (n *node) evaluate(at int) result {
	if n.fixed != nil {
		return *n.fixed
	}
	var r result
	switch n.Kind {
	case api.ExprNumber:
		r = result{Side: match.Side{IsNumber: true, V: n.V}}
	case api.ExprRange:
		r = n.ranged(at)
	case api.ExprVector:
		r = n.aggregated(at)
	case api.ExprBinary:
		r = n.combined(at)
	}
	if !n.hasRange {
		n.fixed = &r
	}
	return r
}

func (n *node) ranged(at int) result {
	groups := n.groups(at)
	if len(groups) > api.MaxSeries {
		return result{e: api.ErrSeries}
	}
	if len(groups) == 0 && n.Fn == api.FnAbsent {
		return ofValues([]api.Value{{V: rat.Of(1)}}, api.OK)
	}
	var l []api.Value
	for _, g := range slices.SortedFunc(maps.Values(groups), func(a, b *group) int { return labels.Compare(a.labels, b.labels) }) {
		v, is, e := window.Run(n.Fn, n.Over, n.Expr.V, g.list)
		if e != api.OK {
			return result{e: e}
		}
		if is {
			l = append(l, api.Value{Labels: g.labels, V: v})
		}
	}
	return ofValues(l, api.OK)
}

// groups returns the samples of a range, by the keys of their labels.
func (n *node) groups(at int) map[string]*group {
	groups := map[string]*group{}
	for _, x := range n.window(at) {
		x = n.result(x)
		if !x.isKept || n.Fn >= api.FnSum && !x.out.Has {
			continue
		}
		g := groups[x.key]
		if g == nil {
			g = &group{labels: x.out.Labels}
			groups[x.key] = g
		}
		g.list = append(g.list, window.Sample{At: x.At, Bytes: len(x.out.Line), V: x.out.V})
	}
	return groups
}

func (n *node) aggregated(at int) result {
	r := n.parts[0].evaluate(at)
	if r.e != api.OK {
		return r
	}
	l, e := vector.Run(n.Expr, r.L)
	slices.SortFunc(l, func(a, b api.Value) int { return labels.Compare(a.Labels, b.Labels) })
	return ofValues(l, e)
}

func (n *node) combined(at int) result {
	one := n.parts[0].evaluate(at)
	if one.e != api.OK {
		return one
	}
	other := n.parts[1].evaluate(at)
	if other.e != api.OK {
		return other
	}
	if one.isMissing || other.isMissing {
		return result{isMissing: !n.hasRange}
	}
	side, is, e := match.Run(n.Expr, one.Side, other.Side)
	if e != api.OK || !side.IsNumber && is {
		return ofValues(side.L, e)
	}
	return result{Side: side, isMissing: !is}
}
