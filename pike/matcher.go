package pike

import (
	"slices"

	"driftnet/prog"
	"driftnet/quote"
)

// thread is an instruction that is to be executed at the current position, with the positions recorded on the way to it.
type thread struct {
	at    int
	marks []int
}

// matcher executes a program on a text, at all positions one after the other, for all threads at once.
// The threads are in the order in which trying would come to them, so that those of an earlier start and of an earlier choice come first.
type matcher struct {
	*Re
	text    string
	at      int
	threads []thread
	spare   []thread
	// seen has, for each instruction, the last position at which it was executed, plus one.
	seen   []int
	isDone bool // Done was reached at some position
	steps  int
}

func newMatcher(r *Re, text string) *matcher {
	return &matcher{Re: r, text: text, seen: make([]int, r.Size())}
}

// add executes an instruction, and those to which it leads, up to the ones that consume a rune; at each position each one only once.
func (m *matcher) add(at int, marks []int) {
	if m.seen[at] == m.at+1 {
		return
	}
	m.seen[at] = m.at + 1
	m.steps++
	switch x := m.L[at]; x.Op {
	case prog.Split:
		m.add(x.X, marks)
		m.add(x.Y, marks)
	case prog.Mark:
		if marks != nil {
			marks = slices.Clone(marks)
			marks[x.N] = m.at
		}
		m.add(x.X, marks)
	case prog.Begin:
		if m.at == 0 {
			m.add(x.X, marks)
		}
	case prog.End:
		if m.at == len(m.text) {
			m.add(x.X, marks)
		}
	default:
		m.isDone = m.isDone || x.Op == prog.Done
		m.threads = append(m.threads, thread{at, marks})
	}
}

// step consumes the next rune; false at the end of the text.
func (m *matcher) step() bool {
	r, size := quote.Decode(m.text[m.at:])
	if size == 0 {
		return false
	}
	now := m.threads
	m.threads, m.spare = m.spare[:0], now
	m.at += size
	for _, t := range now {
		if x := m.L[t.at]; x.Op == prog.Rune && x.Set.Has(int(r)) {
			m.add(x.X, t.marks)
		}
	}
	return true
}
