package engine

import (
	"math"
	"math/rand"
	"strconv"
	"strings"
	"testing"

	"driftnet/api"
	"driftnet/labels"
	"driftnet/model"
	"driftnet/sample"
	"driftnet/store"
)

// both returns a store and a model that accepted the same entries.
func both(t *testing.T, l ...api.Push) (*store.Store, *model.Model) {
	t.Helper()
	s, m := store.New(), model.New()
	for _, p := range l {
		n, e := s.Push(p)
		k, f := m.Push(p)
		if n != k || e != f {
			t.Fatalf("%v: %d, %d; model %d, %d", p, n, e, k, f)
		}
	}
	return s, m
}

// TestAsk covers P30.1 by the examples.
func TestAsk(t *testing.T) {
	s, _ := both(t, sample.Push(sample.Labels("a", "x"), sample.Entry(1, "p"), sample.Entry(5, "q")), sample.Push(sample.Labels("b", "y"), sample.Entry(5, "q")))
	for i, c := range []struct {
		a    api.Ask
		want string
	}{
		{sample.Ask(`{a="x"}`, 0, 9, 1, 5), `1 {a="x"} "p"; 5 {a="x"} "q"`}, {sample.Ask(`sum(count_over_time({a=~".*"}[5ms]))`, 5, 9, 4, 0), "{} 5=3 9=2"}, {sample.Ask("1 / 0", 0, 0, 1, 0), ""}, {sample.Ask("1 / 0 > bool 2", 0, 0, 1, 0), ""}, {sample.Ask("7", 0, 9, 3, 0), "{} 0=7 3=7 6=7 9=7"}, {sample.Ask(`{a=~".*"}`, 0, 9, 1, 2), `5 {a="x"} "q"; 5 {b="y"} "q"`}, {sample.Ask(`{a=~".*"} |= "p"`, 0, 9, 1, 1), `1 {a="x"} "p"`}, {sample.Ask(`{a=~".*"}`, 1, 5, 1, 9), `1 {a="x"} "p"`}, {sample.Ask(`absent_over_time({c="z"}[1s])`, 5, 5, 1, 0), "{} 5=1"},
	} {
		if got := sample.Show(Ask(s, c.a)); got != c.want {
			t.Errorf("%d: %s", i, got)
		}
	}
}

// TestErrors covers P30.1: the errors of a model, and a store that is none.
func TestErrors(t *testing.T) {
	var list []api.Entry
	for i := range 20001 {
		list = append(list, sample.Entry(i/2, "n="+strconv.Itoa(i%201)))
	}
	s, m := both(t, sample.Push(sample.Labels("a", "x"), list...), sample.Push(sample.Labels("a", "y"), sample.Entry(1, "n=1")))
	for i, c := range []struct {
		a api.Ask
		e api.Errno
	}{
		{sample.Ask("1 +", -api.MaxNumber-1, 0, 1, 0), api.ErrArg}, {sample.Ask("1", 0, math.MaxInt, 1, 0), api.ErrArg}, {sample.Ask("1", 1, 0, 1, 0), api.ErrArg}, {sample.Ask("1", 0, 1, 0, 0), api.ErrArg}, {sample.Ask("1", 0, 1, api.MaxNumber+1, 0), api.ErrArg}, {sample.Ask("1", 0, 1, 1, -1), api.ErrArg}, {sample.Ask("1", 0, 1, 1, 1001), api.ErrArg}, {sample.Ask("1", -api.MaxNumber, api.MaxNumber, api.MaxNumber, 1000), api.OK},
		{sample.Ask("1 +", 0, 1, 1, 0), api.ErrQuery}, {sample.Ask("1 ;", 0, 1, 1, 0), api.ErrToken}, {sample.Ask("1 < 2", 0, 9999, 1, 0), api.ErrType}, {sample.Ask(`{a=~"("}`, 0, 9999, 1, 0), api.ErrRegex}, {sample.Ask("1", 0, 1000, 1, 0), api.ErrSteps}, {sample.Ask("1", 0, 999, 1, 0), api.OK},
		{sample.Ask(`{a=~".+"}`, 0, 10001, 1, 5), api.ErrTouch}, {sample.Ask(`{a="x"} |= "nothing"`, 0, 10001, 1, 5), api.ErrTouch}, {sample.Ask(`{a="x"}`, 0, 10000, 1, 5), api.OK}, {sample.Ask(`count_over_time({a="x"}[1ms]) + count_over_time({a="x"}[20ms])`, 0, 999, 1, 0), api.ErrTouch}, {sample.Ask(`sum(count_over_time({a="x"} | logfmt[100ms]))`, 100, 100, 1, 0), api.OK}, {sample.Ask(`sum(count_over_time({a="x"} | logfmt[101ms]))`, 200, 200, 1, 0), api.ErrSeries}, {sample.Ask(`count_over_time({a="x"} | logfmt[1ms])`, 0, 99, 1, 0), api.OK}, {sample.Ask(`count_over_time({a="x"} | logfmt[1ms])`, 0, 100, 1, 0), api.ErrSeries}, {sample.Ask(`count_over_time({a="x"}[10s])`, 9999, 9999, 1, 0), api.OK}, {sample.Ask(`count_over_time({a="x"}[10001ms])`, 10000, 10000, 1, 0), api.ErrTouch}, {sample.Ask(`sum(count_over_time({a="x"} | logfmt[100ms]) or count_over_time({a="x"} | logfmt[100ms] offset 80ms))`, 200, 200, 1, 0), api.ErrSeries}, {sample.Ask(`sum(count_over_time({a="x"} | logfmt[101ms]))`, 200, 200, 1, 0), api.ErrSeries}, {sample.Ask(`absent_over_time({a="x"} | logfmt[101ms])`, 200, 200, 1, 0), api.ErrSeries},
		{sample.Ask(`sum(count_over_time({a=~".+"}[5ms])) + on () count_over_time({a=~".+"}[5ms])`, 5, 5, 1, 0), api.ErrMany}, {sample.Ask(strings.Repeat("9", 40)+strings.Repeat("*"+strings.Repeat("9", 40), 3), 0, 5, 1, 0), api.ErrBig},
	} {
		got, want := Ask(s, c.a), m.Ask(c.a)
		if got.Err != c.e || sample.Show(got) != sample.Show(want) {
			t.Errorf("%d: %v: error %d", i, c.a, got.Err)
		}
	}
	for _, s := range []*store.Store{nil, {}} {
		if got := sample.Show(Ask(s, sample.Ask("1 +", 1, 0, 0, 0))); got != "error 1 at 0" {
			t.Errorf("a store that is none: %s", got)
		}
	}
}

// TestNested covers P30.1: errors of parts, in the order in which these are evaluated.
func TestNested(t *testing.T) {
	// Four numbers with so many digits have a product that is just not too big, but twice it is.
	great := strings.Repeat("9", 40) + " * " + strings.Repeat("9", 40) + " * " + strings.Repeat("9", 40) + " * " + strings.Repeat("9", 34)
	big := great + " * 2"
	many := `count_over_time({a="x"}[1ms]) + on (a) count_over_time({a="x"}[1ms])`
	s, m := both(t, sample.Push(sample.Labels("a", "x", "b", "1"), sample.Entry(1, "v=1"), sample.Entry(2, "v=1")), sample.Push(sample.Labels("a", "x", "b", "2"), sample.Entry(2, "v=1")))
	for _, c := range []struct {
		text string
		e    api.Errno
	}{
		{"1 + (" + big + ")", api.ErrBig}, {"(" + big + ") + 1", api.ErrBig}, {"1 / 0 + (" + big + ")", api.ErrBig}, {"(" + many + ") + (" + big + ")", api.ErrBig}, {"(" + big + ") + (" + many + ")", api.ErrBig}, {"sum(" + many + ") or sum(count_over_time({a=\"x\"}[1ms]))", api.ErrMany}, {"sum(count_over_time({a=\"x\"}[1ms])) or sum(" + many + ")", api.ErrMany}, {`sum(count_over_time({a="x"}[1ms]) * ` + great + ")", api.ErrBig}, {`count_over_time({a="x"}[1ms]) * ` + great, api.OK}, {"1 / 0 + (" + many + ")", api.ErrMany}, {"(1 / 0) * count_over_time({a=\"x\"}[1ms])", api.OK},
	} {
		got, want := Ask(s, sample.Ask(c.text, 1, 2, 1, 0)), m.Ask(sample.Ask(c.text, 1, 2, 1, 0))
		if got.Err != c.e || sample.Show(got) != sample.Show(want) {
			t.Errorf("%s: %s, not %s", c.text, sample.Show(got), sample.Show(want))
		}
	}
}

// TestModel covers P30.1, P30.3 and P30.6: answers are those of a model, however the entries were pushed.
func TestModel(t *testing.T) {
	random := rand.New(rand.NewSource(30))
	pick := sample.Pick(random.Intn)
	answered := 0
	for range 60 {
		l := pick.Pushes(10 + random.Intn(400))
		s, m := both(t, l...)
		pieces := store.New()
		for i := 0; i < len(l); {
			p := l[i]
			for i++; i < len(l) && labels.Same(l[i].Labels, p.Labels); i++ {
				p.List = append(p.List, l[i].List...)
			}
			pieces.Push(p)
		}
		for range 60 {
			a := sample.Ask(pick.Query(), random.Intn(60)-10, 50+random.Intn(80), 1+random.Intn(9), random.Intn(9))
			got, want := sample.Show(Ask(s, a)), sample.Show(m.Ask(a))
			if got != want || sample.Show(Ask(pieces, a)) != want {
				t.Fatalf("%v: %s; model %s", a, got, want)
			}
			if strings.HasPrefix(got, "error") && got != "error 280 at 0" {
				t.Fatalf("%v: %s", a, got)
			}
			if got != "" && !strings.HasPrefix(got, "error") {
				answered++
			}
		}
		if s.Len() != len(l) || s.Len() != pieces.Len() {
			t.Fatal("the store was changed")
		}
	}
	if answered < 2000 {
		t.Errorf("%d answers", answered)
	}
}

// TestExtremes covers P30.3 at the ends of times.
func TestExtremes(t *testing.T) {
	s, m := both(t, sample.Push(sample.Labels("a", "x"), sample.Entry(-api.MaxNumber, "v=1"), sample.Entry(0, "v=2"), sample.Entry(api.MaxNumber, "v=3")))
	for _, text := range []string{`{a="x"}`, `count_over_time({a="x"}[1ms])`, `count_over_time({a="x"}[2501999792h59m991ms])`, `sum_over_time({a="x"} | logfmt | unwrap v[2501999792h59m991ms] offset 2501999792h59m991ms)`, `count_over_time({a="x"}[1ms] offset 2501999792h59m991ms)`} {
		for _, a := range []api.Ask{sample.Ask(text, -api.MaxNumber, api.MaxNumber, api.MaxNumber, 9), sample.Ask(text, api.MaxNumber, api.MaxNumber, api.MaxNumber, 9), sample.Ask(text, -api.MaxNumber, -api.MaxNumber, 1, 9), sample.Ask(text, -api.MaxNumber, api.MaxNumber, api.MaxNumber-1, 9)} {
			if got, want := sample.Show(Ask(s, a)), sample.Show(m.Ask(a)); got != want {
				t.Errorf("%v: %s; model %s", a, got, want)
			}
		}
	}
}

// corrupt returns a store with two blocks of 32 entries in each of two streams, at 0 to 63.
func corrupt(t *testing.T) (*store.Store, *model.Model) {
	t.Helper()
	var l []api.Push
	for i := range 70 {
		l = append(l, sample.Push(sample.Labels("a", "x"), sample.Entry(i, "v=1")), sample.Push(sample.Labels("a", "y"), sample.Entry(i, "v=1")))
	}
	return both(t, l...)
}

// TestCorrupt covers P30.1 and P30.4: a read of a damaged block fails, after the errors up to ErrSteps and before ErrTouch.
func TestCorrupt(t *testing.T) {
	s, m := corrupt(t)
	s.Turn(sample.Labels("a", "y"), 1, 9, 4) // the entries at 32 to 63
	for i, c := range []struct {
		a api.Ask
		e api.Errno
	}{
		{sample.Ask(`{a=~".+"}`, 0, 32, 1, 5), api.OK}, {sample.Ask(`{a=~".+"}`, 0, 33, 1, 5), api.ErrCorrupt}, {sample.Ask(`{a=~".+"}`, 64, 99, 1, 5), api.OK}, {sample.Ask(`{a="x"}`, 0, 99, 1, 5), api.OK}, {sample.Ask(`{a=~".+"}`, 40, 50, 1, 0), api.ErrCorrupt}, {sample.Ask(`{a=~".+"}`, 40, 40, 1, 0), api.ErrCorrupt},
		{sample.Ask(`count_over_time({a="y"}[1ms])`, 0, 31, 1, 0), api.OK}, {sample.Ask(`count_over_time({a="y"}[1ms])`, 0, 32, 1, 0), api.ErrCorrupt}, {sample.Ask(`count_over_time({a="y"}[1ms])`, 0, 32, 3, 0), api.OK}, {sample.Ask(`count_over_time({a="y"}[1ms])`, 0, 33, 3, 0), api.ErrCorrupt}, {sample.Ask(`count_over_time({a="y"}[1ms])`, 0, 99, 99, 0), api.ErrCorrupt}, {sample.Ask(`count_over_time({a="y"}[6ms])`, 69, 69, 1, 0), api.OK}, {sample.Ask(`count_over_time({a="y"}[7ms])`, 69, 69, 1, 0), api.ErrCorrupt}, {sample.Ask(`count_over_time({a="y"}[1ms] offset 31ms)`, 62, 62, 1, 0), api.OK}, {sample.Ask(`count_over_time({a="y"}[1ms] offset 31ms)`, 63, 63, 1, 0), api.ErrCorrupt},
		{sample.Ask(`1 + count_over_time({a="y"}[1ms])`, 0, 32, 1, 0), api.ErrCorrupt}, {sample.Ask(`sum(count_over_time({a="x"}[1ms])) + sum(count_over_time({a="y"}[1ms]))`, 40, 40, 1, 0), api.ErrCorrupt}, {sample.Ask(`count_over_time({a="y"}[1ms]) +`, 0, 32, 1, 0), api.ErrQuery}, {sample.Ask(`count_over_time({a="y"}[1ms]) and 1`, 0, 32, 1, 0), api.ErrType}, {sample.Ask(`count_over_time({a="y"}[1ms])`, 0, 3200, 1, 0), api.ErrSteps}, {sample.Ask(`count_over_time({a="y"}[1s])`, 0, 999, 1, 0), api.ErrCorrupt}, {sample.Ask(`count_over_time({a="x"}[1s])`, 0, 999, 1, 0), api.ErrTouch}, {sample.Ask("1", 0, 9, 1, 0), api.OK}, {sample.Ask(strings.Repeat("9", 40)+strings.Repeat("*"+strings.Repeat("9", 40), 3)+` + count_over_time({a="y"}[1s])`, 40, 40, 1, 0), api.ErrCorrupt},
	} {
		got := Ask(s, c.a)
		if got.Err != c.e || c.e == api.OK && sample.Show(got) != sample.Show(m.Ask(c.a)) || c.e == api.ErrCorrupt && sample.Show(got) != "error 80 at 0" {
			t.Errorf("%d: %v: %s", i, c.a, sample.Show(got))
		}
	}
	s.Turn(sample.Labels("a", "y"), 1, 9, 4)
	random := rand.New(rand.NewSource(31))
	failed := 0
	for range 1500 {
		at, by := random.Intn(120), byte(1+random.Intn(255))
		block := random.Intn(2)
		s.Turn(sample.Labels("a", "y"), block, at, by)
		a := sample.Ask([]string{`{a=~".+"}`, `sum(rate({a=~".+"}[5ms]))`, `count_over_time({a="y"}[9ms] offset 5ms)`}[random.Intn(3)], random.Intn(40), 40+random.Intn(40), 1+random.Intn(3), 3)
		got := Ask(s, a)
		if got.Err == api.ErrCorrupt && sample.Show(got) == "error 80 at 0" {
			failed++
		} else if sample.Show(got) != sample.Show(m.Ask(a)) {
			t.Fatalf("%v: %s", a, sample.Show(got))
		}
		s.Turn(sample.Labels("a", "y"), block, at, by)
	}
	if failed < 200 || failed == 1500 {
		t.Errorf("%d failed", failed)
	}
}

// TestOutside covers P30.5: entries that are not read do not matter.
func TestOutside(t *testing.T) {
	random := rand.New(rand.NewSource(32))
	pick := sample.Pick(random.Intn)
	for range 40 {
		l := pick.Pushes(100)
		s, _ := both(t, l...)
		more := store.New()
		for _, set := range [][]api.Label{sample.Labels("a", "1"), sample.Labels("a", "2", "b", "y"), sample.Labels("z", "1")} {
			more.Push(sample.Push(set, sample.Entry(-5000, "n=9"), sample.Entry(-1000, "n=8")))
		}
		for _, p := range l {
			more.Push(p)
		}
		for i := range 50 {
			more.Push(sample.Push(sample.Labels("a", strconv.Itoa(1+i%4)), sample.Entry(5000+i, "n=7")))
		}
		for range 40 {
			a := sample.Ask(pick.Query(), random.Intn(40), 40+random.Intn(40), 1+random.Intn(9), 5)
			if got, want := sample.Show(Ask(more, a)), sample.Show(Ask(s, a)); got != want {
				t.Fatalf("%v: %s, not %s", a, got, want)
			}
		}
	}
}

// TestMemory covers P30.2: results share nothing with one another or with the store.
func TestMemory(t *testing.T) {
	s, _ := both(t, sample.Push(sample.Labels("a", "x"), sample.Entry(1, "v=1"), sample.Entry(1, "v=1")))
	for _, text := range []string{`{a="x"}`, `count_over_time({a="x"}[9ms])`, "7", "1 + 2", `last_over_time({a="x"} | logfmt | unwrap v[9ms])`, `count_over_time({a="x"}[9ms]) > 1`} {
		a := sample.Ask(text, 1, 3, 1, 9)
		got := Ask(s, a)
		want := sample.Show(got)
		for i, r := range got.Rows {
			r.Labels[0].Value = "changed"
			if i == 0 && got.Rows[1].Labels[0].Value == "changed" {
				t.Errorf("%s: rows share memory", text)
			}
		}
		for _, x := range got.Series {
			for i := range x.Labels {
				x.Labels[i].Value = "changed"
			}
			x.Points[0].V.Num[0] = 99
			if x.Points[1].V.Num[0] == 99 {
				t.Errorf("%s: points share memory", text)
			}
		}
		if again := sample.Show(Ask(s, a)); again != want {
			t.Errorf("%s: %s, before %s", text, again, want)
		}
	}
}
