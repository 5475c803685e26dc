package runes

import (
	"math"
	"math/rand"
	"slices"
	"testing"
)

// noise returns ranges in any order, some of them without runes or with numbers that are not runes.
func noise(random *rand.Rand) []Range {
	var l []Range
	for range random.Intn(7) {
		from := random.Intn(30) - 3
		to := from + random.Intn(8) - 2
		switch random.Intn(8) {
		case 0:
			from, to = Max-random.Intn(5), Max+random.Intn(5)
		case 1:
			from, to = math.MinInt, random.Intn(5)-3
		case 2:
			from, to = Max+1, math.MaxInt
		}
		l = append(l, Range{from, to})
	}
	return l
}

func in(l []Range, r int) bool {
	for _, x := range l {
		if x.From <= r && r <= x.To {
			return r >= 0 && r <= Max
		}
	}
	return false
}

// probes are the runes, and the numbers beside them, that tell noise apart.
func probes() []int {
	var l []int
	for r := -5; r < 45; r++ {
		l = append(l, r, Max-20+r)
	}
	return append(l, math.MinInt, math.MaxInt, 5000)
}

// TestCheck covers P9.1: valid sets.
func TestCheck(t *testing.T) {
	for _, s := range []Set{nil, {}, {{0, Max}}, {{0, 0}}, {{1, 2}, {4, 4}}, {{0xD800, 0xDFFF}}} {
		if !Check(s) {
			t.Errorf("%v is valid", s)
		}
	}
	for _, s := range []Set{{{2, 1}}, {{1, 2}, {3, 4}}, {{1, 2}, {2, 4}}, {{4, 4}, {1, 2}}, {{-1, 2}}, {{5, Max + 1}}, {{Max + 1, Max + 2}}, {{1, 2}, {9, 8}}, {{1, 1}, {1, 1}}} {
		if Check(s) {
			t.Errorf("%v is not valid", s)
		}
	}
	if Max != 1114111 {
		t.Errorf("Max is %d", Max)
	}
	for _, c := range []struct {
		l    []Range
		want Set
	}{{nil, nil}, {[]Range{{5, 7}, {1, 2}, {3, 4}, {9, 8}}, Set{{1, 7}}}, {[]Range{{1, 9}, {2, 3}}, Set{{1, 9}}}, {[]Range{{math.MinInt, math.MaxInt}}, Set{{0, Max}}}, {[]Range{{-5, -1}, {Max + 1, Max + 9}}, nil}, {[]Range{{3, 3}, {1, 1}}, Set{{1, 1}, {3, 3}}}} {
		if s := Of(c.l...); !slices.Equal(s, c.want) {
			t.Errorf("Of(%v): %v", c.l, s)
		}
	}
}

// TestExamples covers P9.2 by the examples.
func TestExamples(t *testing.T) {
	for _, c := range []struct{ got, want Set }{
		{Set{{0, 9}}.Not(), Set{{10, Max}}}, {Set{}.Not(), Set{{0, Max}}}, {Set{{5, Max}}.Not(), Set{{0, 4}}}, {Set{{0, Max}}.Not(), nil},
		{Both(Set{{1, 5}, {7, 9}}, Set{{4, 8}}), Set{{4, 5}, {7, 8}}}, {Join(Set{{1, 2}}, Set{{4, 4}}, Set{{3, 3}}), Set{{1, 4}}}, {Join(), nil},
	} {
		if !slices.Equal(c.got, c.want) {
			t.Errorf("%v, not %v", c.got, c.want)
		}
	}
}

// TestSets covers P9.2 to P9.5: rune by rune, for valid and other sets.
func TestSets(t *testing.T) {
	random := rand.New(rand.NewSource(9))
	for range 2000 {
		k, l := noise(random), noise(random)
		kept := slices.Clone(k)
		a, b := Set(k), Set(l)
		of, not, join, both := Of(k...), a.Not(), Join(a, b), Both(a, b)
		for _, s := range []Set{of, not, join, both} {
			if !Check(s) {
				t.Fatalf("%v, %v: %v", k, l, s)
			}
		}
		for _, r := range probes() {
			x, y := in(k, r), in(l, r)
			isRune := r >= 0 && r <= Max
			if a.Has(r) != x || of.Has(r) != x || not.Has(r) != (isRune && !x) || join.Has(r) != (x || y) || both.Has(r) != (x && y) {
				t.Fatalf("%v, %v: %d", k, l, r)
			}
		}
		if !Same(a, of) || !slices.Equal(not.Not(), of) || Same(a, not) || !Same(join.Not(), Both(not, b.Not())) || Same(a, b) != slices.Equal(of, Of(l...)) {
			t.Fatalf("%v, %v", k, l)
		}
		if join.Size()+both.Size() != a.Size()+b.Size() || a.Size()+not.Size() != Max+1 {
			t.Fatalf("%v, %v: %d, %d", k, l, a.Size(), b.Size())
		}
		for _, s := range []Set{of, not, join, both} {
			for i := range s[:cap(s)] {
				s[:cap(s)][i] = Range{7, 7}
			}
		}
		if !slices.Equal(k, kept) {
			t.Fatalf("%v became %v", kept, k)
		}
	}
	if (Set{{5, 9}}).Size() != 5 || (Set{{5, 9}, {7, 11}}).Size() != 7 || (Set{}).Size() != 0 {
		t.Error("sizes")
	}
}
