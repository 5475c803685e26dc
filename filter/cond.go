package filter

import (
	"slices"

	"driftnet/api"
	"driftnet/labels"
	"driftnet/measure"
	"driftnet/numbers"
	"driftnet/pike"
	"driftnet/rat"
)

// The values of a condition, in their order.
const (
	valueNo = iota
	valueWrong
	valueYes
)

// condition is No, Wrong or Yes for labels.
type condition interface {
	value(l []api.Label) int
}

// equals compares a label with a text.
type equals struct{ name, text string }

func (c equals) value(l []api.Label) int { return yesIf(labels.Get(l, c.name) == c.text) }

// matches compares a label with a pattern.
type matches struct {
	*pike.Re
	name string
}

func (c matches) value(l []api.Label) int { return yesIf(c.Is(labels.Get(l, c.name))) }

// negated is the opposite of a condition that is never Wrong.
type negated struct{ condition }

func (c negated) value(l []api.Label) int { return yesIf(c.condition.value(l) == valueNo) }

// measured compares the number of a label.
type measured struct {
	name  string
	read  func(string) (api.Rat, api.Errno)
	op    int
	bound api.Rat
}

func (c measured) value(l []api.Label) int {
	text := labels.Get(l, c.name)
	if text == "" {
		return valueNo
	}
	v, e := c.read(text)
	if e != api.OK {
		return valueWrong
	}
	order, _ := rat.Cmp(v, c.bound)
	return yesIf(holds(c.op, order))
}

// least has the least value of two conditions.
type least struct{ one, other condition }

func (c least) value(l []api.Label) int { return min(c.one.value(l), c.other.value(l)) }

// greatest has the greatest value of two conditions.
type greatest struct{ one, other condition }

func (c greatest) value(l []api.Label) int { return max(c.one.value(l), c.other.value(l)) }

// Cond is a condition that looks at labels.
type Cond struct {
	condition condition
}

// NewCond compiles a condition.
func NewCond(c api.Cond) (*Cond, api.Errno) {
	if isDeeper(c, api.MaxDepth) {
		return nil, api.ErrDepth
	}
	compiled, e := compile(c)
	if e != api.OK {
		return nil, e
	}
	return &Cond{compiled}, api.OK
}

// Fits reports whether labels pass, and whether they are faulty.
func (c *Cond) Fits(l []api.Label) (fits, wrong bool) {
	if c == nil || c.condition == nil {
		return false, false
	}
	value := c.condition.value(l)
	return value != valueNo, value == valueWrong
}

func compile(c api.Cond) (condition, api.Errno) {
	switch c.Kind {
	case api.CondText:
		return compileText(c)
	case api.CondNumber:
		return compileMeasured(c, measure.Number)
	case api.CondTime:
		return compileMeasured(c, measure.Time)
	case api.CondSize:
		return compileMeasured(c, measure.Size)
	case api.CondAnd, api.CondOr:
		return compilePair(c)
	}
	return nil, api.ErrArg
}

func compileText(c api.Cond) (condition, api.Errno) {
	if c.Op < api.OpIs || c.Op > api.OpOther {
		return nil, api.ErrArg
	}
	var out condition = equals{c.Name, c.Text}
	if c.Op == api.OpLike || c.Op == api.OpOther {
		re, _, e := pike.New(c.Text)
		if e != api.OK {
			return nil, api.ErrRegex
		}
		out = matches{re, c.Name}
	}
	if c.Op == api.OpNot || c.Op == api.OpOther {
		out = negated{out}
	}
	return out, api.OK
}

func compileMeasured(c api.Cond, read func(string) (api.Rat, api.Errno)) (condition, api.Errno) {
	if c.Op < api.OpEq || c.Op > api.OpGe || rat.Check(c.V) != api.OK {
		return nil, api.ErrArg
	}
	return measured{c.Name, read, c.Op, numbers.Copy(c.V)}, api.OK
}

func compilePair(c api.Cond) (condition, api.Errno) {
	if len(c.L) != 2 {
		return nil, api.ErrArg
	}
	one, e := compile(c.L[0])
	if e != api.OK {
		return nil, e
	}
	other, e := compile(c.L[1])
	if e != api.OK {
		return nil, e
	}
	if c.Kind == api.CondAnd {
		return least{one, other}, api.OK
	}
	return greatest{one, other}, api.OK
}

// holds reports whether a comparison holds between numbers in that order.
func holds(op, order int) bool {
	switch op {
	case api.OpEq:
		return order == 0
	case api.OpNe:
		return order != 0
	case api.OpLt:
		return order < 0
	case api.OpLe:
		return order <= 0
	case api.OpGt:
		return order > 0
	}
	return order >= 0
}

func yesIf(is bool) int {
	if is {
		return valueYes
	}
	return valueNo
}

// isDeeper reports whether c is more than most deep.
func isDeeper(c api.Cond, most int) bool {
	return most < 1 || slices.ContainsFunc(c.L, func(part api.Cond) bool { return isDeeper(part, most-1) })
}
