package nat

import (
	"math/big"
	"math/rand"
	"slices"
	"strings"
	"testing"

	"driftnet/api"
)

func toBig(a []uint32) *big.Int {
	x := new(big.Int)
	for i := len(a) - 1; i >= 0; i-- {
		x.Lsh(x, 32)
		x.Or(x, big.NewInt(int64(a[i])))
	}
	return x
}

func ofBig(x *big.Int) []uint32 {
	var a []uint32
	for y := new(big.Int).Set(x); y.Sign() > 0; y.Rsh(y, 32) {
		a = append(a, uint32(y.Uint64()))
	}
	return a
}

// samples returns valid numbers of 0 to most limbs, with many limbs of all zeros and all ones.
func samples(most, count int) [][]uint32 {
	random := rand.New(rand.NewSource(int64(most)))
	out := [][]uint32{nil, {1}, {2}, {1<<32 - 1}, {0, 1}, {1<<32 - 1, 1<<32 - 1}, {0, 0, 1}}
	for range count {
		a := make([]uint32, random.Intn(most+1))
		for i := range a {
			switch random.Intn(4) {
			case 0:
				a[i] = 1<<32 - 1
			case 1:
			default:
				a[i] = random.Uint32() >> random.Intn(32)
			}
		}
		out = append(out, trim(a))
	}
	return out
}

var (
	long   = append(make([]uint32, 64), 1)
	zeroes = []uint32{1, 0}
)

// TestOf covers P1.1: conversions and the validity of limbs.
func TestOf(t *testing.T) {
	for _, c := range []struct {
		n uint64
		a []uint32
	}{{0, nil}, {1, []uint32{1}}, {1<<32 - 1, []uint32{1<<32 - 1}}, {1 << 32, []uint32{0, 1}}, {1<<64 - 1, []uint32{1<<32 - 1, 1<<32 - 1}}} {
		if a := Of(c.n); !slices.Equal(a, c.a) {
			t.Errorf("Of(%d): %v", c.n, a)
		}
		if n, ok := Small(c.a); n != c.n || !ok {
			t.Errorf("Small(%v): %d, %v", c.a, n, ok)
		}
	}
	for _, a := range [][]uint32{{0}, {1, 0}, {0, 0, 1}, long} {
		if n, ok := Small(a); n != 0 || ok {
			t.Errorf("Small(%v): %d, %v", a, n, ok)
		}
	}
	for _, c := range []struct {
		a []uint32
		e api.Errno
	}{{nil, api.OK}, {[]uint32{1}, api.OK}, {long[1:], api.OK}, {long, api.ErrLimit}, {make([]uint32, 65), api.ErrLimit}, {make([]uint32, 64), api.ErrArg}, {[]uint32{0}, api.ErrArg}, {zeroes, api.ErrArg}} {
		if e := Check(c.a); e != c.e {
			t.Errorf("Check(%v): %d", c.a, e)
		}
	}
}

// TestInvalid covers P1.1: all functions return the error of the first invalid argument.
func TestInvalid(t *testing.T) {
	two := map[string]func(a, b []uint32) ([]uint32, api.Errno){"Add": Add, "Sub": Sub, "Mul": Mul, "Gcd": Gcd,
		"quotient": func(a, b []uint32) ([]uint32, api.Errno) { q, _, e := Div(a, b); return q, e },
		"rest":     func(a, b []uint32) ([]uint32, api.Errno) { _, r, e := Div(a, b); return r, e },
	}
	for name, run := range two {
		for _, c := range []struct {
			a, b []uint32
			e    api.Errno
		}{{long, zeroes, api.ErrLimit}, {zeroes, long, api.ErrArg}, {Of(1), long, api.ErrLimit}, {Of(1), zeroes, api.ErrArg}, {zeroes, nil, api.ErrArg}} {
			if x, e := run(c.a, c.b); e != c.e || len(x) > 0 {
				t.Errorf("%s(%v, %v): %v, %d", name, c.a, c.b, x, e)
			}
		}
	}
	if Cmp(zeroes, Of(1)) != 0 || Cmp(Of(1), zeroes) != 0 || Cmp(long, nil) != 0 {
		t.Error("Cmp of invalid limbs")
	}
	if s, e := Text(zeroes); s != "" || e != api.ErrArg {
		t.Errorf("Text: %q, %d", s, e)
	}
	if s, e := Text(long); s != "" || e != api.ErrLimit {
		t.Errorf("Text: %q, %d", s, e)
	}
}

// TestArithmetic covers P1.2 and P1.5: results are those of math/big, whose properties they share.
func TestArithmetic(t *testing.T) {
	list := append(samples(8, 50), samples(64, 30)...)
	for _, a := range list {
		for _, b := range list {
			x, y := toBig(a), toBig(b)
			if c := Cmp(a, b); c != x.Cmp(y) {
				t.Fatalf("%v cmp %v: %d", x, y, c)
			}
			if s, e := Add(a, b); e != api.OK || !slices.Equal(s, ofBig(x.Add(x, y))) {
				t.Fatalf("%v + %v: %v, %d", a, b, s, e)
			}
			x = toBig(a)
			if p, e := Mul(a, b); e != api.OK || !slices.Equal(p, ofBig(x.Mul(x, y))) {
				t.Fatalf("%v * %v: %v, %d", a, b, p, e)
			}
			checkSub(t, a, b)
			checkDiv(t, a, b)
			x = toBig(a)
			if g, e := Gcd(a, b); e != api.OK || !slices.Equal(g, ofBig(x.GCD(nil, nil, x, y))) {
				t.Fatalf("gcd of %v, %v: %v, %d", a, b, g, e)
			}
		}
	}
}

func checkSub(t *testing.T, a, b []uint32) {
	t.Helper()
	x, y := toBig(a), toBig(b)
	d, e := Sub(a, b)
	if x.Cmp(y) < 0 {
		if e != api.ErrRange || len(d) > 0 {
			t.Fatalf("%v - %v: %v, %d", a, b, d, e)
		}
		return
	}
	if e != api.OK || !slices.Equal(d, ofBig(x.Sub(x, y))) {
		t.Fatalf("%v - %v: %v, %d", a, b, d, e)
	}
}

func checkDiv(t *testing.T, a, b []uint32) {
	t.Helper()
	x, y := toBig(a), toBig(b)
	q, r, e := Div(a, b)
	if y.Sign() == 0 {
		if e != api.ErrZero || len(q) > 0 || len(r) > 0 {
			t.Fatalf("%v / 0: %v, %v, %d", a, q, r, e)
		}
		return
	}
	n, m := x.QuoRem(x, y, new(big.Int))
	if e != api.OK || !slices.Equal(q, ofBig(n)) || !slices.Equal(r, ofBig(m)) {
		t.Fatalf("%v / %v: %v, %v, %d", a, b, q, r, e)
	}
}

// TestLarge covers P1.2: results may have more than 64 limbs.
func TestLarge(t *testing.T) {
	full := slices.Repeat([]uint32{1<<32 - 1}, 64)
	if s, e := Add(full, full); e != api.OK || len(s) != 65 {
		t.Errorf("%d limbs, %d", len(s), e)
	}
	if p, e := Mul(full, full); e != api.OK || len(p) != 128 {
		t.Errorf("%d limbs, %d", len(p), e)
	}
}

// TestText covers P1.3 and P1.6: digits and limbs correspond.
func TestText(t *testing.T) {
	for _, a := range append(samples(62, 100), []uint32{groupBase}, []uint32{groupBase - 1}, Of(groupBase*groupBase)) {
		s, e := Text(a)
		if s != toBig(a).String() || e != api.OK {
			t.Errorf("Text(%v): %s, %d", a, s, e)
		}
		if b, e := Read(s); !slices.Equal(a, b) || e != api.OK {
			t.Errorf("Read(%s): %v, %d", s, b, e)
		}
	}
	most := strings.Repeat("9", 600)
	if a, e := Read(most); e != api.OK || toBig(a).String() != most {
		t.Errorf("600 digits: %d", e)
	}
	for s, want := range map[string]api.Errno{"": api.ErrSyntax, "007": api.ErrSyntax, "00": api.ErrSyntax, "-1": api.ErrSyntax, "+1": api.ErrSyntax, "1a": api.ErrSyntax, " 1": api.ErrSyntax, "1/": api.ErrSyntax, "1:": api.ErrSyntax, most + "9": api.ErrLimit, strings.Repeat("x", 601): api.ErrLimit, strings.Repeat("0", 600): api.ErrSyntax} {
		if a, e := Read(s); e != want || len(a) > 0 {
			t.Errorf("Read(%s): %v, %d", s, a, e)
		}
	}
}

// TestMemory covers P1.4: arguments, with their unused capacity, are only read, and results share nothing with them.
func TestMemory(t *testing.T) {
	whole := []uint32{7, 9, 11, 13, 15}
	a, b := whole[:3], []uint32{5, 1}
	var results [][]uint32
	keep := func(l ...[]uint32) { results = append(results, l...) }
	sum, _ := Add(a, nil)
	difference, _ := Sub(a, nil)
	product, _ := Mul(a, Of(1))
	quotient, rest, _ := Div(b, a)
	divisor, _ := Gcd(a, nil)
	other, _ := Gcd(nil, a)
	same, _ := divByOne(a)
	keep(sum, difference, product, quotient, rest, divisor, other, same)
	Text(a)
	for _, r := range results {
		for i := range r[:cap(r)] {
			r[:cap(r)][i] = 99
		}
	}
	if !slices.Equal(whole, []uint32{7, 9, 11, 13, 15}) || !slices.Equal(b, []uint32{5, 1}) {
		t.Errorf("%v, %v", whole, b)
	}
}

// divByOne divides by one.
func divByOne(a []uint32) ([]uint32, api.Errno) {
	q, _, e := Div(a, Of(1))
	return q, e
}

// TestLaws covers P1.5 by its own words.
func TestLaws(t *testing.T) {
	list := samples(20, 12)
	must := func(a []uint32, e api.Errno) []uint32 {
		if e != api.OK {
			t.Fatal(e)
		}
		return a
	}
	for _, a := range list {
		for _, b := range list {
			if !slices.Equal(must(Add(a, b)), must(Add(b, a))) || !slices.Equal(must(Mul(a, b)), must(Mul(b, a))) {
				t.Errorf("not commutative: %v, %v", a, b)
			}
			if !slices.Equal(must(Sub(must(Add(a, b)), b)), a) {
				t.Errorf("Sub does not undo Add: %v, %v", a, b)
			}
			if g := must(Gcd(a, b)); len(g) > 0 {
				p, r, _ := Div(a, g)
				q, s, _ := Div(b, g)
				if len(r)+len(s) > 0 || !slices.Equal(must(Gcd(p, q)), Of(1)) {
					t.Errorf("gcd of %v, %v: %v", a, b, g)
				}
			}
			for _, c := range list {
				if !slices.Equal(must(Mul(a, must(Add(b, c)))), must(Add(must(Mul(a, b)), must(Mul(a, c))))) {
					t.Errorf("not distributive: %v, %v, %v", a, b, c)
				}
			}
		}
	}
}
