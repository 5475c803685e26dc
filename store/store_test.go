package store

import (
	"math"
	"math/rand"
	"slices"
	"strconv"
	"strings"
	"testing"

	"driftnet/api"
	"driftnet/labels"
	"driftnet/sample"
)

func is(name, value string) api.Matcher {
	return api.Matcher{Kind: api.MatchIs, Name: name, Value: value}
}

func same(a, b []Stream) bool {
	return slices.EqualFunc(a, b, func(x, y Stream) bool { return labels.Same(x.Labels, y.Labels) && slices.Equal(x.List, y.List) })
}

func example(t *testing.T) *Store {
	t.Helper()
	s := New()
	for _, c := range []struct {
		p api.Push
		n int
		e api.Errno
	}{{sample.Push(sample.Labels("a", "1"), sample.Entry(5, "x"), sample.Entry(4, "y"), sample.Entry(6, "z")), 1, api.ErrOrder}, {sample.Push(sample.Labels("b", ""), sample.Entry(1, "x")), 0, api.ErrLabels}, {sample.Push(nil, sample.Entry(7, "q")), 1, api.OK}} {
		if n, e := s.Push(c.p); n != c.n || e != c.e {
			t.Fatalf("%v: %d, %d", c.p, n, e)
		}
	}
	return s
}

// TestPush covers P15.1: what is accepted, and when a stream exists.
func TestPush(t *testing.T) {
	s := example(t)
	long := strings.Repeat("x", 4097)
	for _, c := range []struct {
		p                api.Push
		n                int
		e                api.Errno
		streams, entries int
	}{
		{sample.Push(sample.Labels("b", "1", "a", "1"), sample.Entry(1, "")), 0, api.ErrLabels, 2, 2},
		{sample.Push(sample.Labels("c", "1")), 0, api.OK, 2, 2},
		{sample.Push(sample.Labels("c", "1"), sample.Entry(1, long), sample.Entry(1, "")), 0, api.ErrLine, 2, 2},
		{sample.Push(sample.Labels("c", "1"), sample.Entry(api.MaxNumber+1, "")), 0, api.ErrRange, 2, 2},
		{sample.Push(sample.Labels("c", "1"), sample.Entry(1, ""), sample.Entry(2, long)), 1, api.ErrLine, 3, 3},
		{sample.Push(sample.Labels("c", "1"), sample.Entry(1, "again"), sample.Entry(1, "more"), sample.Entry(0, "")), 2, api.ErrOrder, 3, 5},
		{sample.Push(sample.Labels("c", "1")), 0, api.OK, 3, 5},
		{sample.Push(sample.Labels("a", "1"), sample.Entry(4, "")), 0, api.ErrOrder, 3, 5},
		{sample.Push(sample.Labels("d", "1"), sample.Entry(1, ""), sample.Entry(2, ""), sample.Entry(3, "")), 3, api.OK, 4, 8},
		{sample.Push(sample.Labels("a", "1"), sample.Entry(math.MinInt, "")), 0, api.ErrRange, 4, 8},
	} {
		if n, e := s.Push(c.p); n != c.n || e != c.e || s.Streams() != c.streams || s.Len() != c.entries {
			t.Errorf("%v: %d, %d, %d streams, %d entries", c.p.Labels, n, e, s.Streams(), s.Len())
		}
	}
}

// TestFull covers P15.1: the limit of streams.
func TestFull(t *testing.T) {
	s := New()
	for i := range 200 {
		if n, e := s.Push(sample.Push(sample.Labels("n", strconv.Itoa(i)), sample.Entry(i, ""))); n != 1 || e != api.OK {
			t.Fatalf("%d: %d, %d", i, n, e)
		}
	}
	for _, c := range []struct {
		p api.Push
		n int
		e api.Errno
	}{{sample.Push(sample.Labels("n", "200"), sample.Entry(1, "")), 0, api.ErrFull}, {sample.Push(sample.Labels("n", "200"), sample.Entry(math.MinInt, "")), 0, api.ErrFull}, {sample.Push(sample.Labels("n", "200")), 0, api.OK}, {sample.Push(sample.Labels("n", ""), sample.Entry(1, "")), 0, api.ErrLabels}, {sample.Push(sample.Labels("n", "7"), sample.Entry(9, "")), 1, api.OK}} {
		if n, e := s.Push(c.p); n != c.n || e != c.e || s.Streams() != 200 {
			t.Errorf("%v: %d, %d", c.p, n, e)
		}
	}
	if s.Len() != 201 {
		t.Errorf("%d entries", s.Len())
	}
}

// TestSelect covers P15.2 by the examples.
func TestSelect(t *testing.T) {
	s := example(t)
	none, one := Stream{List: []api.Entry{sample.Entry(7, "q")}}, Stream{Labels: sample.Labels("a", "1"), List: []api.Entry{sample.Entry(5, "x")}}
	for _, c := range []struct {
		from, to int
		l        []api.Matcher
		want     []Stream
	}{
		{0, 9, nil, []Stream{none, one}}, {6, 9, nil, []Stream{none}}, {0, 9, []api.Matcher{is("a", "1")}, []Stream{one}}, {5, 5, nil, nil}, {5, 7, nil, []Stream{one}}, {0, 9, []api.Matcher{is("a", "")}, []Stream{none}}, {9, 0, nil, nil}, {math.MinInt, math.MaxInt, []api.Matcher{{Kind: api.MatchLike, Name: "a", Value: "[0-9]?"}}, []Stream{none, one}},
	} {
		if got, e := s.Select(c.from, c.to, c.l...); e != api.OK || !same(got, c.want) {
			t.Errorf("%d to %d, %v: %v, %d", c.from, c.to, c.l, got, e)
		}
	}
	if s.Streams() != 2 || s.Len() != 2 {
		t.Errorf("%d streams, %d entries", s.Streams(), s.Len())
	}
	for _, c := range []struct {
		l []api.Matcher
		e api.Errno
	}{{[]api.Matcher{is("9", "1")}, api.ErrArg}, {[]api.Matcher{is("a", "x"), {Kind: api.MatchLike, Name: "a", Value: "("}, is("9", "1")}, api.ErrRegex}} {
		if got, e := s.Select(0, 9, c.l...); e != c.e || len(got) > 0 {
			t.Errorf("%v: %v, %d", c.l, got, e)
		}
	}
	if got, e := New().Select(0, 9, is("9", "1")); e != api.ErrArg || len(got) > 0 {
		t.Errorf("%v, %d", got, e)
	}
}

// TestTurn covers P15.2 and P15.3: blocks of a stream, and what their damage does.
func TestTurn(t *testing.T) {
	s := New()
	for i := range 70 {
		s.Push(sample.Push(sample.Labels("a", "1"), sample.Entry(i, "line")))
		s.Push(sample.Push(sample.Labels("a", "2"), sample.Entry(i, "line")))
	}
	for _, c := range []struct {
		l    []api.Label
		want int
	}{{sample.Labels("a", "1"), 2}, {sample.Labels("a", "3"), 0}, {sample.Labels("a", ""), 0}, {nil, 0}} {
		if n := s.Blocks(c.l); n != c.want {
			t.Errorf("%v: %d blocks", c.l, n)
		}
	}
	if s.Turn(sample.Labels("a", "3"), 0, 0, 1) || s.Turn(sample.Labels("a", "1"), 2, 0, 1) || s.Turn(sample.Labels("a", "1"), -1, 0, 1) || s.Turn(sample.Labels("a", "1"), 0, 1<<20, 1) || s.Turn(nil, 0, 0, 1) {
		t.Error("there is no such byte")
	}
	if !s.Turn(sample.Labels("a", "2"), 1, 5, 64) {
		t.Error("there is such a byte")
	}
	for _, c := range []struct {
		from, to int
		l        []api.Matcher
		streams  int
		e        api.Errno
	}{{0, 99, nil, 0, api.ErrCorrupt}, {0, 32, nil, 2, api.OK}, {64, 99, nil, 2, api.OK}, {0, 99, []api.Matcher{is("a", "1")}, 1, api.OK}, {63, 64, []api.Matcher{is("a", "2")}, 0, api.ErrCorrupt}} {
		if got, e := s.Select(c.from, c.to, c.l...); e != c.e || len(got) != c.streams {
			t.Errorf("%d to %d: %d streams, %d", c.from, c.to, len(got), e)
		}
	}
	s.Turn(sample.Labels("a", "2"), 1, 5, 64)
	if got, e := s.Select(0, 99); e != api.OK || len(got) != 2 || len(got[1].List) != 70 {
		t.Errorf("%v, %d", got, e)
	}
}

// TestNone covers P15.4: a nil or zero Store, and memory.
func TestNone(t *testing.T) {
	for _, s := range []*Store{nil, {}} {
		n, e := s.Push(sample.Push(sample.Labels("a", ""), sample.Entry(1, "")))
		l, f := s.Select(0, 9, is("9", "1"))
		if n != 0 || e != api.ErrNil || len(l) > 0 || f != api.ErrNil || s.Streams() != 0 || s.Len() != 0 || s.Blocks(nil) != 0 || s.Turn(nil, 0, 0, 1) {
			t.Error("a store that is none")
		}
	}
	s := New()
	p := sample.Push(sample.Labels("a", "1"), sample.Entry(1, "x"))
	s.Push(p)
	p.Labels[0].Value, p.List[0].Line = "changed", "changed"
	got, _ := s.Select(0, 9)
	want := []Stream{{Labels: sample.Labels("a", "1"), List: []api.Entry{sample.Entry(1, "x")}}}
	if !same(got, want) {
		t.Errorf("%v", got)
	}
	got[0].Labels[0].Value, got[0].List[0].Line = "changed", "changed"
	if again, _ := s.Select(0, 9); !same(again, want) {
		t.Errorf("%v", again)
	}
}

// TestLaws covers P15.5 and P15.6: the accepted entries of each stream, whatever is pushed to the others.
func TestLaws(t *testing.T) {
	random := rand.New(rand.NewSource(15))
	s := New()
	accepted := map[string][]api.Entry{}
	last := map[string]int{}
	for i := range 3000 {
		value := strconv.Itoa(random.Intn(12))
		x := sample.Entry(random.Intn(i+1), strconv.Itoa(i))
		n, e := s.Push(sample.Push(sample.Labels("a", value, "b", "x"), x))
		if ok := len(accepted[value]) == 0 || x.At >= last[value]; ok != (e == api.OK) || n == 1 != ok || !ok && e != api.ErrOrder {
			t.Fatalf("%v: %d, %d", x, n, e)
		} else if ok {
			accepted[value] = append(accepted[value], x)
			last[value] = x.At
		}
	}
	for range 200 {
		from, to := random.Intn(3000), random.Intn(3500)
		got, e := s.Select(from, to, api.Matcher{Kind: api.MatchLike, Name: "a", Value: "[0-9]"})
		var want []Stream
		for i := range 10 {
			list := slices.DeleteFunc(slices.Clone(accepted[strconv.Itoa(i)]), func(x api.Entry) bool { return x.At < from || x.At >= to })
			if len(list) > 0 {
				want = append(want, Stream{Labels: sample.Labels("a", strconv.Itoa(i), "b", "x"), List: list})
			}
		}
		if e != api.OK || !same(got, want) {
			t.Fatalf("%d to %d: %v, %d", from, to, got, e)
		}
	}
}
