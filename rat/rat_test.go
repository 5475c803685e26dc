package rat

import (
	"math"
	"math/big"
	"math/rand"
	"slices"
	"strings"
	"testing"

	"driftnet/api"
)

func limbs(x *big.Int) []uint32 {
	var a []uint32
	for y := new(big.Int).Abs(x); y.Sign() > 0; y.Rsh(y, 32) {
		a = append(a, uint32(y.Uint64()))
	}
	return a
}

func natural(a []uint32) *big.Int {
	x := new(big.Int)
	for i := len(a) - 1; i >= 0; i-- {
		x.Lsh(x, 32)
		x.Or(x, big.NewInt(int64(a[i])))
	}
	return x
}

func toBig(r api.Rat) *big.Rat {
	x := new(big.Rat).SetFrac(natural(r.Num), natural(r.Den))
	if r.Neg {
		x.Neg(x)
	}
	return x
}

// ofBig returns the number, and ErrBig if it has too many limbs.
func ofBig(x *big.Rat) (api.Rat, api.Errno) {
	r := api.Rat{Neg: x.Sign() < 0, Num: limbs(x.Num()), Den: limbs(x.Denom())}
	if len(r.Num) > 16 || len(r.Den) > 16 {
		return api.Rat{}, api.ErrBig
	}
	return r, api.OK
}

func read(t *testing.T, s string) api.Rat {
	t.Helper()
	r, e := Read(s)
	if e != api.OK {
		t.Fatalf("Read(%s): %d", s, e)
	}
	return r
}

func samples(count, bits int) []api.Rat {
	random := rand.New(rand.NewSource(int64(bits)))
	out := []api.Rat{Of(0), Of(1), Of(-1), Of(2), Of(7), Of(math.MinInt), Of(math.MaxInt)}
	for len(out) < count {
		num := new(big.Int).Rand(random, new(big.Int).Lsh(big.NewInt(1), uint(1+random.Intn(bits))))
		den := new(big.Int).Rand(random, new(big.Int).Lsh(big.NewInt(1), uint(1+random.Intn(bits))))
		if random.Intn(3) == 0 {
			den.SetInt64(int64(random.Intn(12)))
		}
		x := new(big.Rat).SetFrac(num, den.Add(den, big.NewInt(1)))
		if random.Intn(2) == 0 {
			x.Neg(x)
		}
		if r, e := ofBig(x); e == api.OK {
			out = append(out, r)
		}
	}
	return out
}

var (
	tooLong = api.Rat{Num: make([]uint32, 17), Den: []uint32{1}}
	invalid = []api.Rat{{}, {Num: []uint32{1}}, {Den: []uint32{2}}, {Neg: true, Den: []uint32{1}}, {Num: []uint32{2}, Den: []uint32{4}}, {Num: []uint32{1, 0}, Den: []uint32{1}}, {Num: []uint32{1}, Den: []uint32{1, 0}}}
)

// TestCheck covers P2.1: validity, integers and quotients.
func TestCheck(t *testing.T) {
	for _, r := range invalid {
		if e := Check(r); e != api.ErrArg {
			t.Errorf("%v: %d", r, e)
		}
	}
	for _, r := range []api.Rat{tooLong, {Den: make([]uint32, 17)}, {Num: make([]uint32, 70), Den: []uint32{0}}} {
		if e := Check(r); e != api.ErrBig {
			t.Errorf("%v: %d", r, e)
		}
	}
	full := slices.Repeat([]uint32{1<<32 - 1}, 16)
	for _, r := range append(samples(40, 500), api.Rat{Num: full, Den: []uint32{1}}, api.Rat{Neg: true, Num: []uint32{1}, Den: full}) {
		if e := Check(r); e != api.OK {
			t.Errorf("%v: %d", r, e)
		}
	}
	for _, n := range []int{0, 1, -1, 1 << 40, math.MaxInt, math.MinInt} {
		if s, e := Text(Of(n)); e != api.OK || s != big.NewInt(int64(n)).String() {
			t.Errorf("Of(%d): %s", n, s)
		}
	}
}

// TestNew covers P2.1: quotients are reduced, or too big only if they are so when reduced.
func TestNew(t *testing.T) {
	wide := append(make([]uint32, 31), 1)
	for _, c := range []struct {
		neg      bool
		num, den []uint32
		text     string
		e        api.Errno
	}{
		{false, []uint32{6}, []uint32{4}, "3/2", api.OK},
		{true, []uint32{6}, []uint32{3}, "-2", api.OK},
		{true, nil, []uint32{5}, "0", api.OK},
		{false, wide, wide, "1", api.OK},
		{true, wide, append(make([]uint32, 30), 1), "-4294967296", api.OK},
		{false, wide, []uint32{1}, "", api.ErrBig},
		{false, []uint32{1}, wide, "", api.ErrBig},
		{false, nil, wide, "0", api.OK},
		{false, []uint32{1}, nil, "", api.ErrZero},
		{false, []uint32{0}, nil, "", api.ErrArg},
		{false, []uint32{1}, []uint32{1, 0}, "", api.ErrArg},
		{false, append(wide, 1), []uint32{1}, "", api.ErrArg},
		{false, []uint32{1}, append(wide, 1), "", api.ErrArg},
		{false, make([]uint32, 65), []uint32{1}, "", api.ErrArg},
	} {
		r, e := New(c.neg, c.num, c.den)
		if e != c.e || e == api.OK && !Same(r, read(t, c.text)) || e != api.OK && !Same(r, api.Rat{}) {
			t.Errorf("New(%v, %v, %v): %v, %d", c.neg, c.num, c.den, r, e)
		}
	}
}

var operations = map[string]func(a, b api.Rat) (api.Rat, api.Errno){"add": Add, "sub": Sub, "mul": Mul, "div": Div}

func reference(name string, x, y *big.Rat) (api.Rat, api.Errno) {
	z := new(big.Rat)
	switch name {
	case "add":
		z.Add(x, y)
	case "sub":
		z.Sub(x, y)
	case "mul":
		z.Mul(x, y)
	case "div":
		if y.Sign() == 0 {
			return api.Rat{}, api.ErrZero
		}
		z.Quo(x, y)
	}
	return ofBig(z)
}

// TestArithmetic covers P2.2, P2.5 and P2.6: results are those of math/big, ErrBig where they are too big.
func TestArithmetic(t *testing.T) {
	big := 0
	for _, bits := range []int{20, 200, 511} {
		list := samples(40, bits)
		for _, a := range list {
			for _, b := range list {
				for name, run := range operations {
					r, e := run(a, b)
					want, f := reference(name, toBig(a), toBig(b))
					if e != f || !Same(r, want) || e == api.OK && Check(r) != api.OK {
						t.Fatalf("%s of %v, %v: %v, %d", name, a, b, r, e)
					}
					if e == api.ErrBig {
						big++
					}
				}
				c, e := Cmp(a, b)
				if e != api.OK || c != toBig(a).Cmp(toBig(b)) || (c == 0) != Same(a, b) {
					t.Fatalf("%v cmp %v: %d, %d", a, b, c, e)
				}
			}
		}
	}
	if big == 0 {
		t.Error("nothing was too big")
	}
}

// TestInvalid covers P2.2: the error of the first number is returned.
func TestInvalid(t *testing.T) {
	for name, run := range operations {
		for _, c := range []struct {
			a, b api.Rat
			e    api.Errno
		}{{tooLong, invalid[0], api.ErrBig}, {invalid[0], tooLong, api.ErrArg}, {Of(1), tooLong, api.ErrBig}, {Of(1), invalid[4], api.ErrArg}, {invalid[3], Of(0), api.ErrArg}} {
			if r, e := run(c.a, c.b); e != c.e || !Same(r, api.Rat{}) {
				t.Errorf("%s of %v, %v: %v, %d", name, c.a, c.b, r, e)
			}
			if n, e := Cmp(c.a, c.b); e != c.e || n != 0 {
				t.Errorf("%v cmp %v: %d, %d", c.a, c.b, n, e)
			}
		}
	}
	for _, r := range append(invalid, tooLong) {
		want := Check(r)
		if x, e := Neg(r); e != want || !Same(x, api.Rat{}) {
			t.Errorf("Neg(%v): %v, %d", r, x, e)
		}
		if x, e := Floor(r); e != want || !Same(x, api.Rat{}) {
			t.Errorf("Floor(%v): %v, %d", r, x, e)
		}
		if s, e := Text(r); e != want || s != "" {
			t.Errorf("Text(%v): %s, %d", r, s, e)
		}
		if n, ok := Whole(r); IsZero(r) || ok || n != 0 {
			t.Errorf("%v is zero, or %d", r, n)
		}
	}
}

// TestUnary covers P2.2: Neg and Floor.
func TestUnary(t *testing.T) {
	for s, want := range map[string][2]string{"0": {"0", "0"}, "1/2": {"-1/2", "0"}, "-1/2": {"1/2", "-1"}, "7/3": {"-7/3", "2"}, "-7/3": {"7/3", "-3"}, "-2": {"2", "-2"}, "5": {"-5", "5"}} {
		neg, e := Neg(read(t, s))
		floor, f := Floor(read(t, s))
		if e != api.OK || f != api.OK || !Same(neg, read(t, want[0])) || !Same(floor, read(t, want[1])) {
			t.Errorf("%s: %v, %v", s, neg, floor)
		}
	}
}

// TestWhole covers P2.3: what is an int, or zero, or the same.
func TestWhole(t *testing.T) {
	for _, n := range []int{0, 5, -5, math.MaxInt, math.MinInt} {
		if m, ok := Whole(Of(n)); m != n || !ok {
			t.Errorf("%d: %d, %v", n, m, ok)
		}
		if IsZero(Of(n)) != (n == 0) {
			t.Errorf("IsZero of %d", n)
		}
	}
	for _, s := range []string{"1/2", "9223372036854775808", "-9223372036854775809", "18446744073709551616", "-18446744073709551615"} {
		if n, ok := Whole(read(t, s)); ok || n != 0 {
			t.Errorf("%s: %d", s, n)
		}
	}
	if !Same(invalid[1], invalid[1]) || Same(Of(1), Of(-1)) || Same(Of(1), Of(2)) || Same(Of(2), read(t, "2/3")) {
		t.Error("Same")
	}
}

// TestText covers P2.3 and P2.7: texts and numbers correspond.
func TestText(t *testing.T) {
	for _, r := range samples(60, 500) {
		s, e := Text(r)
		if e != api.OK || strings.TrimSuffix(toBig(r).String(), "/1") != s {
			t.Errorf("%v: %s, %d", r, s, e)
		}
		if !Same(read(t, s), r) {
			t.Errorf("read from %s: %v", s, r)
		}
	}
	nines := strings.Repeat("9", 600)
	for s, want := range map[string]api.Errno{
		"": api.ErrSyntax, "-": api.ErrSyntax, "6/4": api.ErrSyntax, "-0": api.ErrSyntax, "3/1": api.ErrSyntax, "3/0": api.ErrSyntax, "1/0": api.ErrSyntax, "-1/0": api.ErrSyntax, "0/1": api.ErrSyntax, "0/5": api.ErrSyntax, "1/": api.ErrSyntax, "/2": api.ErrSyntax, "1/2/3": api.ErrSyntax, "1/-2": api.ErrSyntax, "--1": api.ErrSyntax, "01": api.ErrSyntax, "1/02": api.ErrSyntax, "1.5": api.ErrSyntax, " 1": api.ErrSyntax, "+1": api.ErrSyntax,
		nines: api.ErrBig, "-1/" + nines: api.ErrBig, nines + "9": api.ErrSyntax, "1/" + nines + "9": api.ErrSyntax, nines + "/3": api.ErrSyntax,
	} {
		if r, e := Read(s); e != want || !Same(r, api.Rat{}) {
			t.Errorf("Read(%s): %v, %d", s, r, e)
		}
	}
}

// TestMemory covers P2.4: arguments are only read, and results share nothing with them.
func TestMemory(t *testing.T) {
	num, den := []uint32{5, 1, 8}, []uint32{7, 9}
	a := api.Rat{Num: num[:2], Den: den[:1]}
	var results []api.Rat
	keep := func(r api.Rat, e api.Errno) {
		if e != api.OK {
			t.Error(e)
		}
		results = append(results, r)
	}
	keep(Add(a, Of(0)))
	keep(Add(Of(0), a))
	keep(Sub(a, Of(0)))
	keep(Mul(a, Of(1)))
	keep(Mul(Of(1), a))
	keep(Div(a, Of(1)))
	keep(Neg(a))
	keep(New(false, a.Num, a.Den))
	keep(Floor(api.Rat{Num: a.Num, Den: []uint32{1}}))
	for _, r := range results {
		for _, l := range [][]uint32{r.Num, r.Den} {
			for i := range l[:cap(l)] {
				l[:cap(l)][i] = 99
			}
		}
	}
	if !slices.Equal(num, []uint32{5, 1, 8}) || !slices.Equal(den, []uint32{7, 9}) {
		t.Errorf("%v, %v", num, den)
	}
}

// TestLaws covers P2.5 and P2.6 by their own words, for numbers whose results are not too big.
func TestLaws(t *testing.T) {
	list := samples(14, 60)
	must := func(r api.Rat, e api.Errno) api.Rat {
		if e != api.OK {
			t.Fatal(e)
		}
		return r
	}
	for _, a := range list {
		for _, b := range list {
			if !Same(must(Sub(must(Add(a, b)), b)), a) || !IsZero(b) && !Same(must(Div(must(Mul(a, b)), b)), a) {
				t.Errorf("not undone: %v, %v", a, b)
			}
			c, _ := Cmp(a, b)
			d, _ := Cmp(must(Sub(a, b)), Of(0))
			if c != d {
				t.Errorf("Cmp of %v, %v", a, b)
			}
			for _, c := range list {
				if !Same(must(Mul(a, must(Add(b, c)))), must(Add(must(Mul(a, b)), must(Mul(a, c))))) || !Same(must(Add(must(Add(a, b)), c)), must(Add(a, must(Add(b, c))))) {
					t.Errorf("laws: %v, %v, %v", a, b, c)
				}
			}
		}
	}
}
