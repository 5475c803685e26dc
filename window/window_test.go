package window

import (
	"math"
	"math/rand"
	"strings"
	"testing"

	"driftnet/api"
	"driftnet/rat"
)

func value(t *testing.T, s string) api.Rat {
	t.Helper()
	r, e := rat.Read(s)
	if e != api.OK {
		t.Fatalf("%s: %d", s, e)
	}
	return r
}

// of makes samples of numbers, with 0, 1, 2 .. bytes.
func of(t *testing.T, l ...string) []Sample {
	t.Helper()
	var out []Sample
	for i, s := range l {
		out = append(out, Sample{At: i, Bytes: i, V: value(t, s)})
	}
	return out
}

func check(t *testing.T, fn, over int, q api.Rat, l []Sample, want string) {
	t.Helper()
	v, is, e := Run(fn, over, q, l)
	if e != api.OK || !is || !rat.Same(v, value(t, want)) {
		t.Errorf("function %d over %d: %v, %v, %d, not %s", fn, over, v, is, e, want)
	}
}

// TestRun covers P26.1: the number of each function.
func TestRun(t *testing.T) {
	l := of(t, "3", "1/2", "5")
	for fn, want := range map[int]string{api.FnCount: "3", api.FnRate: "3/2", api.FnBytes: "3", api.FnByteRate: "3/2", api.FnSum: "17/2", api.FnAvg: "17/6", api.FnMin: "1/2", api.FnMax: "5", api.FnFirst: "3", api.FnLast: "5"} {
		check(t, fn, 2000, api.Rat{}, l, want)
	}
	for q, want := range map[string]string{"1/2": "3", "3/4": "4", "0": "1/2", "1": "5", "1/4": "7/4", "1/3": "13/6"} {
		check(t, api.FnQuantile, 1, value(t, q), l, want)
	}
	bytes := []Sample{{Bytes: 4}, {Bytes: 6}}
	check(t, api.FnBytes, 5000, api.Rat{}, bytes, "10")
	check(t, api.FnByteRate, 5000, api.Rat{}, bytes, "2")
	check(t, api.FnCount, api.MaxNumber, api.Rat{}, bytes, "2")
	check(t, api.FnAbsent, 1, api.Rat{}, nil, "1")
	check(t, api.FnRate, api.MaxNumber, api.Rat{}, bytes, "2000/9007199254740991")
	many := make([]Sample, 5000)
	for i := range many {
		many[i].Bytes = api.MaxNumber
	}
	check(t, api.FnBytes, 1, api.Rat{}, many, "45035996273704955000")
}

// TestNone covers P26.1: where there is no point.
func TestNone(t *testing.T) {
	for fn := 1; fn <= 12; fn++ {
		l := []Sample(nil)
		if fn == api.FnAbsent {
			l = []Sample{{}}
		}
		if v, is, e := Run(fn, 1, rat.Of(1), l); e != api.OK || is || !rat.Same(v, api.Rat{}) {
			t.Errorf("function %d: %v, %v, %d", fn, v, is, e)
		}
	}
}

// TestErrors covers P26.1: arguments that are not valid, and numbers that are too big.
func TestErrors(t *testing.T) {
	invalid := api.Rat{Num: []uint32{2}, Den: []uint32{2}}
	wide := api.Rat{Num: make([]uint32, 17), Den: []uint32{1}}
	for i, c := range []struct {
		fn, over int
		q        api.Rat
		l        []Sample
		e        api.Errno
	}{
		{0, 1, api.Rat{}, nil, api.ErrArg}, {13, 1, api.Rat{}, nil, api.ErrArg}, {-1, 1, api.Rat{}, nil, api.ErrArg}, {math.MinInt, 1, api.Rat{}, nil, api.ErrArg}, {1, 0, api.Rat{}, nil, api.ErrArg}, {1, -1, api.Rat{}, nil, api.ErrArg}, {1, api.MaxNumber + 1, api.Rat{}, nil, api.ErrArg}, {1, api.MaxNumber, api.Rat{}, nil, api.OK},
		{1, 1, api.Rat{}, []Sample{{Bytes: -1}}, api.ErrArg}, {5, 1, api.Rat{}, []Sample{{}, {Bytes: api.MaxNumber + 1}}, api.ErrArg}, {5, 1, invalid, []Sample{{V: invalid, Bytes: api.MaxNumber}}, api.OK},
		{6, 1, api.Rat{}, []Sample{{}}, api.ErrArg}, {7, 1, api.Rat{}, []Sample{{V: rat.Of(1)}, {V: invalid}}, api.ErrArg}, {11, 1, api.Rat{}, []Sample{{V: wide}}, api.ErrArg}, {6, 1, invalid, []Sample{{V: rat.Of(1)}}, api.OK},
		{12, 1, api.Rat{}, nil, api.ErrArg}, {12, 1, invalid, nil, api.ErrArg}, {12, 1, rat.Of(2), nil, api.ErrArg}, {12, 1, rat.Of(-1), nil, api.ErrArg}, {12, 1, wide, nil, api.ErrArg}, {12, 1, rat.Of(0), []Sample{{V: api.Rat{}}}, api.ErrArg},
	} {
		v, is, e := Run(c.fn, c.over, c.q, c.l)
		if e != c.e || e != api.OK && (is || !rat.Same(v, api.Rat{})) {
			t.Errorf("%d: %v, %v, %d", i, v, is, e)
		}
	}
	most := strings.Repeat("9", 154) // 2^512 has 155 digits
	third, seventh := "1/3", "1/"+most
	for _, c := range []struct {
		fn int
		q  string
		l  []Sample
		e  api.Errno
	}{
		{api.FnSum, "0", of(t, most, "-"+most, most), api.OK}, {api.FnSum, "0", of(t, most, most, "-"+most), api.ErrBig}, {api.FnSum, "0", of(t, third, seventh), api.OK}, {api.FnSum, "0", of(t, "1/7", seventh), api.ErrBig}, {api.FnSum, "0", of(t, "1/7", seventh, "-1/7"), api.ErrBig}, {api.FnSum, "0", of(t, "1/7", "-1/7", seventh), api.OK}, {api.FnAvg, "0", of(t, "1/7", seventh), api.ErrBig}, {api.FnAvg, "0", of(t, seventh, seventh, "0", "0", "0", "0", "0"), api.ErrBig}, {api.FnMax, "0", of(t, "1/7", seventh), api.OK},
		{api.FnQuantile, "1/2", of(t, "1/7", seventh), api.ErrBig}, {api.FnQuantile, "1", of(t, "1/7", seventh), api.OK}, {api.FnQuantile, "1/2", of(t, "0", seventh, "1"), api.OK}, {api.FnQuantile, seventh, of(t, "0", "1"), api.OK}, {api.FnQuantile, seventh, of(t, "0", "0", "0", "0", "0", "0", "0", "0"), api.OK}, {api.FnQuantile, seventh, of(t, "0", "1/7"), api.ErrBig}, {api.FnQuantile, most[:153] + "8/" + most, of(t, "0", "0"), api.OK}, {api.FnQuantile, most[:153] + "8/" + most, of(t, "0", "0", "0"), api.ErrBig},
	} {
		v, is, e := Run(c.fn, 1, value(t, c.q), c.l)
		if e != c.e || is != (e == api.OK) || e != api.OK && !rat.Same(v, api.Rat{}) {
			t.Errorf("%d, %s, %v: %v, %d", c.fn, c.q, c.l, v, e)
		}
	}
}

// TestMemory covers P26.2: arguments are only read, and results are new.
func TestMemory(t *testing.T) {
	for fn := api.FnSum; fn <= api.FnQuantile; fn++ {
		l := of(t, "7", "5", "3")[:2]
		q := rat.Of(1)
		v, _, _ := Run(fn, 1, q, l)
		for i := range v.Num {
			v.Num[i] = 99
		}
		v.Den[0] = 99
		if want := of(t, "7", "5"); !rat.Same(l[0].V, want[0].V) || !rat.Same(l[1].V, want[1].V) || !rat.Same(q, rat.Of(1)) {
			t.Errorf("function %d: %v", fn, l)
		}
	}
}

// TestLaws covers P26.3, P26.4 and P26.5.
func TestLaws(t *testing.T) {
	random := rand.New(rand.NewSource(26))
	get := func(fn, over int, q api.Rat, l []Sample) api.Rat {
		v, is, e := Run(fn, over, q, l)
		if !is || e != api.OK {
			t.Fatalf("function %d: %v, %d", fn, is, e)
		}
		return v
	}
	for range 2000 {
		var l []Sample
		for range 1 + random.Intn(6) {
			v, _ := rat.Div(rat.Of(random.Intn(41)-20), rat.Of(1+random.Intn(6)))
			l = append(l, Sample{Bytes: random.Intn(100), V: v})
		}
		over := 1 + random.Intn(5000)
		q, _ := rat.Div(rat.Of(random.Intn(11)), rat.Of(10))
		none := api.Rat{}
		least, most := get(api.FnMin, over, none, l), get(api.FnMax, over, none, l)
		for fn := api.FnAvg; fn <= api.FnQuantile; fn++ {
			v := get(fn, over, q, l)
			if order(least, v) > 0 || order(v, most) > 0 {
				t.Fatalf("function %d of %v: %v", fn, l, v)
			}
			if one := get(fn, over, q, l[:1]); !rat.Same(one, l[0].V) {
				t.Fatalf("function %d of %v: %v", fn, l[:1], one)
			}
		}
		if !rat.Same(get(api.FnQuantile, over, rat.Of(0), l), least) || !rat.Same(get(api.FnQuantile, over, rat.Of(1), l), most) || !rat.Same(get(api.FnSum, over, none, l[:1]), l[0].V) {
			t.Fatalf("%v", l)
		}
		for _, pair := range [][2]int{{api.FnCount, api.FnRate}, {api.FnBytes, api.FnByteRate}} {
			times, _ := rat.Mul(get(pair[1], over, none, l), rat.Of(over))
			back, _ := rat.Div(times, rat.Of(1000))
			if !rat.Same(back, get(pair[0], over, none, l)) {
				t.Fatalf("%v over %d", l, over)
			}
		}
		before := map[int]api.Rat{}
		for fn := api.FnCount; fn <= api.FnQuantile; fn++ {
			if fn != api.FnAbsent && fn != api.FnFirst && fn != api.FnLast {
				before[fn] = get(fn, over, q, l)
			}
		}
		random.Shuffle(len(l), func(i, j int) { l[i], l[j] = l[j], l[i] })
		for fn, v := range before {
			if !rat.Same(v, get(fn, over, q, l)) {
				t.Fatalf("function %d of %v: the order matters", fn, l)
			}
		}
	}
}
