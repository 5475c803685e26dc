package engine

import (
	"cmp"
	"slices"

	"driftnet/api"
	"driftnet/labels"
	"driftnet/pipe"
)

// node is a part of a query; a range, or a log query as a whole, has the lines that were read for it.
type node struct {
	api.Expr
	parts []*node
	lines []*line
	pipe  *pipe.Pipe
	// hasRange tells whether there is a range in the part: then it has values, otherwise it is a number.
	hasRange bool
	// fixed is the result of a part without ranges, which is the same at each instant, once it is known.
	fixed *result
}

// line is an entry that was read, and what its pipeline made of it, once that is known.
type line struct {
	api.Entry
	stream []api.Label
	isRun  bool
	isKept bool
	out    pipe.Out
	key    string
}

// plan returns the nodes of an expression, and reads what they need, the left ones first.
func (p *progress) plan(x api.Expr) (*node, api.Errno) {
	n := &node{Expr: x, hasRange: x.Kind == api.ExprRange}
	var e api.Errno
	switch x.Kind {
	case api.ExprLog:
		e = p.read(n, x, p.Start, p.End)
	case api.ExprRange:
		last := p.Start + p.steps()*p.Step
		e = p.read(n, x.L[0], p.Start-x.Back-x.Over+1, last-x.Back+1)
	default:
		for _, inner := range x.L {
			var part *node
			if part, e = p.plan(inner); e != api.OK {
				break
			}
			n.parts = append(n.parts, part)
			n.hasRange = n.hasRange || part.hasRange
		}
	}
	if e != api.OK {
		return nil, e
	}
	return n, api.OK
}

// read gives a node the lines of a log query, in order.
func (p *progress) read(n *node, log api.Expr, from, to int) api.Errno {
	streams, e := p.Select(from, to, log.Matchers...)
	if e != api.OK {
		return e
	}
	if n.pipe, e = pipe.New(log.Stages); e != api.OK {
		return e
	}
	for _, s := range streams {
		for _, x := range s.List {
			n.lines = append(n.lines, &line{Entry: x, stream: s.Labels})
		}
	}
	// The streams are in the order of their labels, which remains among lines of the same time.
	slices.SortStableFunc(n.lines, func(a, b *line) int { return cmp.Compare(a.At, b.At) })
	return api.OK
}

// eachRange visits the ranges in a part, the left ones first.
func (n *node) eachRange(visit func(n *node)) {
	if n.Kind == api.ExprRange {
		visit(n)
	}
	for _, part := range n.parts {
		part.eachRange(visit)
	}
}

// window returns the lines of a range at an instant.
func (n *node) window(at int) []*line {
	last := at - n.Back
	return within(n.lines, last-n.Over+1, last+1, func(x *line) int { return x.At })
}

// result passes a line through the pipeline, unless that was done before.
func (n *node) result(x *line) *line {
	if !x.isRun {
		x.isRun = true
		x.out, x.isKept = n.pipe.Run(x.stream, x.Line)
		x.key = labels.Key(x.out.Labels)
	}
	return x
}

// within returns the elements of an ordered list from a time (included) to another one (excluded).
func within[T any](l []T, from, to int, at func(T) int) []T {
	rest := l[count(l, func(x T) bool { return at(x) < from }):]
	return rest[:count(rest, func(x T) bool { return at(x) < to })]
}

// count returns how many elements at the beginning of a list are before the others.
func count[T any](l []T, isBefore func(T) bool) int {
	first, last := 0, len(l)
	for first < last {
		if middle := (first + last) / 2; isBefore(l[middle]) {
			first = middle + 1
		} else {
			last = middle
		}
	}
	return first
}
