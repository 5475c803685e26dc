package posts

import (
	"math"
	"math/rand"
	"regexp"
	"slices"
	"strings"
	"testing"

	"driftnet/api"
	"driftnet/labels"
	"driftnet/sample"
)

func match(kind int, name, value string) api.Matcher {
	return api.Matcher{Kind: kind, Name: name, Value: value}
}

func example(t *testing.T) *Index {
	t.Helper()
	x := New()
	for i, l := range [][]api.Label{sample.Labels("a", "1", "b", "2"), sample.Labels("a", "1"), sample.Labels("b", "3")} {
		if n, e := x.Add(l); n != i || e != api.OK {
			t.Fatalf("%v: %d, %d", l, n, e)
		}
	}
	return x
}

// TestCheck covers P13.1: valid matchers.
func TestCheck(t *testing.T) {
	long := strings.Repeat("v", 256)
	for _, c := range []struct {
		m api.Matcher
		e api.Errno
	}{
		{match(1, "a", long), api.OK}, {match(2, "a", ""), api.OK}, {match(3, "a", long), api.OK}, {match(4, "_", "x*"), api.OK}, {match(1, "a", "*"), api.OK}, {match(2, "a", "\xff("), api.OK},
		{match(0, "a", "x"), api.ErrArg}, {match(5, "a", "x"), api.ErrArg}, {match(-1, "a", "x"), api.ErrArg}, {match(1, "9", "x"), api.ErrArg}, {match(1, "", "x"), api.ErrArg}, {match(1, "a", long+"v"), api.ErrArg}, {match(3, "a", long+"("), api.ErrArg}, {match(3, "9", "("), api.ErrArg},
		{match(3, "a", "*"), api.ErrRegex}, {match(4, "a", "("), api.ErrRegex}, {match(3, "a", "(?:a{50}){50}"), api.ErrLimit}, {match(4, "a", strings.Repeat("(?:", 21)+strings.Repeat(")", 21)), api.ErrDepth},
	} {
		if e := Check(c.m); e != c.e {
			t.Errorf("%v: %d", c.m, e)
		}
		if l, e := example(t).Select(match(1, "a", "1"), c.m, match(0, "", "")); e != c.e && c.e != api.OK || len(l) > 0 {
			t.Errorf("Select(%v): %v, %d", c.m, l, e)
		}
	}
}

// TestAdd covers P13.2 and P13.4: numbers, labels, names and values.
func TestAdd(t *testing.T) {
	x := example(t)
	for _, l := range [][]api.Label{sample.Labels("b", "1", "a", "2"), sample.Labels("a", ""), sample.Labels("9", "x"), sample.Labels("a", strings.Repeat("v", 257)), sample.Labels("a", "1", "a", "1")} {
		if n, e := x.Add(l); n != 0 || e != api.ErrLabels {
			t.Errorf("%v: %d, %d", l, n, e)
		}
	}
	if n, e := x.Add(sample.Labels("a", "1")); n != 3 || e != api.OK {
		t.Errorf("the same labels again: %d, %d", n, e)
	}
	if n, e := x.Add(nil); n != 4 || e != api.OK || x.Len() != 5 {
		t.Errorf("no labels: %d, %d", n, e)
	}
	if l, ok := x.Labels(0); !ok || !labels.Same(l, sample.Labels("a", "1", "b", "2")) {
		t.Errorf("%v, %v", l, ok)
	}
	if l, ok := x.Labels(4); !ok || len(l) > 0 {
		t.Errorf("%v, %v", l, ok)
	}
	for _, n := range []int{-1, 5, math.MinInt, math.MaxInt} {
		if l, ok := x.Labels(n); ok || len(l) > 0 {
			t.Errorf("%d: %v", n, l)
		}
	}
	if !slices.Equal(x.Names(), []string{"a", "b"}) || !slices.Equal(x.Values("b"), []string{"2", "3"}) || !slices.Equal(x.Values("a"), []string{"1"}) || len(x.Values("c")) > 0 || len(New().Names()) > 0 {
		t.Errorf("%v, %v", x.Names(), x.Values("b"))
	}
}

// TestSelect covers P13.3 by the examples.
func TestSelect(t *testing.T) {
	x := example(t)
	for _, c := range []struct {
		l    []api.Matcher
		want []int
	}{
		{[]api.Matcher{match(1, "a", "1")}, []int{0, 1}}, {[]api.Matcher{match(1, "a", "")}, []int{2}}, {[]api.Matcher{match(3, "b", "[23]?")}, []int{0, 1, 2}}, {[]api.Matcher{match(1, "a", "1"), match(2, "b", "2")}, []int{1}}, {nil, []int{0, 1, 2}},
		{[]api.Matcher{match(4, "b", "[23]?")}, nil}, {[]api.Matcher{match(3, "b", "2|x")}, []int{0}}, {[]api.Matcher{match(2, "c", "")}, nil}, {[]api.Matcher{match(4, "c", "x")}, []int{0, 1, 2}}, {[]api.Matcher{match(3, "b", "")}, []int{1}}, {[]api.Matcher{match(3, "a", ".")}, []int{0, 1}}, {[]api.Matcher{match(2, "a", "2"), match(2, "a", "2")}, []int{0, 1, 2}},
	} {
		if got, e := x.Select(c.l...); e != api.OK || !slices.Equal(got, c.want) {
			t.Errorf("%v: %v, %d", c.l, got, e)
		}
	}
	if l, e := x.Select(match(9, "a", "1")); e != api.ErrArg || len(l) > 0 {
		t.Errorf("%v, %d", l, e)
	}
	if l, e := x.Select(match(1, "9", "1"), match(3, "b", "*")); e != api.ErrArg || len(l) > 0 {
		t.Errorf("%v, %d", l, e)
	}
	if l, e := x.Select(match(3, "b", "*"), match(1, "9", "1")); e != api.ErrRegex || len(l) > 0 {
		t.Errorf("%v, %d", l, e)
	}
}

// TestNone covers P13.4: a nil or zero Index, and memory.
func TestNone(t *testing.T) {
	for _, x := range []*Index{nil, {}} {
		n, e := x.Add(nil)
		l, ok := x.Labels(0)
		s, f := x.Select(match(0, "", ""))
		if n != 0 || e != api.ErrNil || ok || len(l) > 0 || len(s) > 0 || f != api.ErrNil || len(x.Names())+len(x.Values("a"))+x.Len() > 0 {
			t.Error("an index that is none")
		}
	}
	l := sample.Labels("a", "1", "b", "2")
	x := New()
	x.Add(l)
	l[0].Value = "changed"
	got, _ := x.Labels(0)
	if got[0].Value != "1" {
		t.Error("the argument was retained")
	}
	got[0].Value = "changed"
	names, values, numbers := x.Names(), x.Values("a"), first(x.Select())
	names[0], values[0], numbers[0] = "x", "x", 7
	if again, _ := x.Labels(0); again[0].Value != "1" || x.Names()[0] != "a" || x.Values("a")[0] != "1" || first(x.Select())[0] != 0 {
		t.Error("results share memory")
	}
}

func first(l []int, _ api.Errno) []int { return l }

// TestLaws covers P13.5 and P13.6: selecting is checking each label set.
func TestLaws(t *testing.T) {
	random := rand.New(rand.NewSource(13))
	x := New()
	var sets [][]api.Label
	for range 60 {
		var l []api.Label
		for _, name := range []string{"a", "b", "c"} {
			if random.Intn(3) > 0 {
				l = append(l, api.Label{Name: name, Value: []string{"1", "12", "x"}[random.Intn(3)]})
			}
		}
		x.Add(l)
		sets = append(sets, l)
	}
	for range 2000 {
		var l []api.Matcher
		for range random.Intn(4) {
			l = append(l, match(1+random.Intn(4), []string{"a", "b", "c", "d"}[random.Intn(4)], []string{"", "1", "12?", "x|1", ".*", "x"}[random.Intn(6)]))
		}
		var want []int
		for n, set := range sets {
			if !slices.ContainsFunc(l, func(m api.Matcher) bool { return !fits(m, set) }) {
				want = append(want, n)
			}
		}
		got, e := x.Select(l...)
		if e != api.OK || !slices.Equal(got, want) {
			t.Fatalf("%v: %v, not %v", l, got, want)
		}
		random.Shuffle(len(l), func(i, j int) { l[i], l[j] = l[j], l[i] })
		if again, _ := x.Select(l...); !slices.Equal(got, again) {
			t.Fatalf("%v: the order of matchers matters", l)
		}
		for _, m := range l {
			one, _ := x.Select(m)
			m.Kind = []int{0, 2, 1, 4, 3}[m.Kind]
			other, _ := x.Select(m)
			both := append(one, other...)
			if slices.Sort(both); len(both) != 60 || both[0] != 0 || len(slices.Compact(both)) != 60 {
				t.Fatalf("%v and its negation: %v", m, both)
			}
		}
	}
}

func fits(m api.Matcher, l []api.Label) bool {
	v := labels.Get(l, m.Name)
	is := v == m.Value
	if m.Kind > 2 {
		is = regexp.MustCompile("^(?:" + m.Value + ")$").MatchString(v)
	}
	return is == (m.Kind%2 == 1)
}
