package engine

import (
	"math"
	"math/rand"
	"strconv"
	"strings"
	"testing"

	"driftnet/api"
	"driftnet/labels"
	"driftnet/model"
	"driftnet/quote"
	"driftnet/rat"
	"driftnet/sample"
	"driftnet/store"
)

// of makes labels of names and values in turn.
func of(l ...string) []api.Label {
	var out []api.Label
	for i := 0; i+1 < len(l); i += 2 {
		out = append(out, api.Label{Name: l[i], Value: l[i+1]})
	}
	return out
}

func push(l []api.Label, list ...api.Entry) api.Push {
	return api.Push{Labels: l, List: list}
}

func entry(at int, line string) api.Entry {
	return api.Entry{At: at, Line: line}
}

func ask(text string, start, end, step, limit int) api.Ask {
	return api.Ask{Text: text, Start: start, End: end, Step: step, Limit: limit}
}

// show returns an answer as one line.
func show(a api.Answer) string {
	parts := []string{strconv.Itoa(int(a.Err)) + " at " + strconv.Itoa(a.At)}
	for _, r := range a.Rows {
		parts = append(parts, strconv.Itoa(r.At)+" "+labels.Text(r.Labels)+" "+quote.Quote(r.Line))
	}
	for _, s := range a.Series {
		text := labels.Text(s.Labels)
		for _, p := range s.Points {
			v, _ := rat.Text(p.V)
			text += " " + strconv.Itoa(p.At) + "=" + v
		}
		parts = append(parts, text)
	}
	return strings.Join(parts, "; ")
}

// both returns a store and a model that accepted the same entries.
func both(t *testing.T, l ...api.Push) (*store.Store, *model.Model) {
	t.Helper()
	s, m := store.New(), model.New()
	for _, p := range l {
		n, e := s.Push(p)
		k, f := m.Push(p)
		if n != k || e != f {
			t.Fatalf("%v: %d, %d; model %d, %d", p, n, e, k, f)
		}
	}
	return s, m
}

// TestAsk covers P30.1 by the examples.
func TestAsk(t *testing.T) {
	s, _ := both(t, push(of("a", "x"), entry(1, "p"), entry(5, "q")), push(of("b", "y"), entry(5, "q")))
	for i, c := range []struct {
		a    api.Ask
		want string
	}{
		{ask(`{a="x"}`, 0, 9, 1, 5), `0 at 0; 1 {a="x"} "p"; 5 {a="x"} "q"`}, {ask(`sum(count_over_time({a=~".*"}[5ms]))`, 5, 9, 4, 0), "0 at 0; {} 5=3 9=2"}, {ask("1 / 0", 0, 0, 1, 0), "0 at 0"}, {ask("1 / 0 > bool 2", 0, 0, 1, 0), "0 at 0"}, {ask("7", 0, 9, 3, 0), "0 at 0; {} 0=7 3=7 6=7 9=7"}, {ask(`{a=~".*"}`, 0, 9, 1, 2), `0 at 0; 5 {a="x"} "q"; 5 {b="y"} "q"`}, {ask(`{a=~".*"} |= "p"`, 0, 9, 1, 1), `0 at 0; 1 {a="x"} "p"`}, {ask(`{a=~".*"}`, 1, 5, 1, 9), `0 at 0; 1 {a="x"} "p"`}, {ask(`absent_over_time({c="z"}[1s])`, 5, 5, 1, 0), "0 at 0; {} 5=1"},
	} {
		if got := show(Ask(s, c.a)); got != c.want {
			t.Errorf("%d: %s", i, got)
		}
	}
}

// TestErrors covers P30.1: the errors of a model, and a store that is none.
func TestErrors(t *testing.T) {
	var list []api.Entry
	for i := range 20001 {
		list = append(list, entry(i/2, "n="+strconv.Itoa(i%201)))
	}
	s, m := both(t, push(of("a", "x"), list...), push(of("a", "y"), entry(1, "n=1")))
	for i, c := range []struct {
		a api.Ask
		e api.Errno
	}{
		{ask("1 +", -api.MaxNumber-1, 0, 1, 0), api.ErrArg}, {ask("1", 0, math.MaxInt, 1, 0), api.ErrArg}, {ask("1", 1, 0, 1, 0), api.ErrArg}, {ask("1", 0, 1, 0, 0), api.ErrArg}, {ask("1", 0, 1, api.MaxNumber+1, 0), api.ErrArg}, {ask("1", 0, 1, 1, -1), api.ErrArg}, {ask("1", 0, 1, 1, 1001), api.ErrArg}, {ask("1", -api.MaxNumber, api.MaxNumber, api.MaxNumber, 1000), api.OK},
		{ask("1 +", 0, 1, 1, 0), api.ErrQuery}, {ask("1 ;", 0, 1, 1, 0), api.ErrToken}, {ask("1 < 2", 0, 9999, 1, 0), api.ErrType}, {ask(`{a=~"("}`, 0, 9999, 1, 0), api.ErrRegex}, {ask("1", 0, 1000, 1, 0), api.ErrSteps}, {ask("1", 0, 999, 1, 0), api.OK},
		{ask(`{a=~".+"}`, 0, 10001, 1, 5), api.ErrTouch}, {ask(`{a="x"} |= "nothing"`, 0, 10001, 1, 5), api.ErrTouch}, {ask(`{a="x"}`, 0, 10000, 1, 5), api.OK}, {ask(`count_over_time({a="x"}[1ms]) + count_over_time({a="x"}[20ms])`, 0, 999, 1, 0), api.ErrTouch}, {ask(`sum(count_over_time({a="x"} | logfmt[100ms]))`, 100, 100, 1, 0), api.OK}, {ask(`sum(count_over_time({a="x"} | logfmt[101ms]))`, 200, 200, 1, 0), api.ErrSeries}, {ask(`count_over_time({a="x"} | logfmt[1ms])`, 0, 99, 1, 0), api.OK}, {ask(`count_over_time({a="x"} | logfmt[1ms])`, 0, 100, 1, 0), api.ErrSeries},
		{ask(`sum(count_over_time({a=~".+"}[5ms])) + on () count_over_time({a=~".+"}[5ms])`, 5, 5, 1, 0), api.ErrMany}, {ask(strings.Repeat("9", 40)+strings.Repeat("*"+strings.Repeat("9", 40), 3), 0, 5, 1, 0), api.ErrBig},
	} {
		got, want := Ask(s, c.a), m.Ask(c.a)
		if got.Err != c.e || show(got) != show(want) {
			t.Errorf("%d: %v: error %d", i, c.a, got.Err)
		}
	}
	for _, s := range []*store.Store{nil, {}} {
		if got := show(Ask(s, ask("1 +", 1, 0, 0, 0))); got != "1 at 0" {
			t.Errorf("a store that is none: %s", got)
		}
	}
}

// TestModel covers P30.1, P30.3 and P30.6: answers are those of a model, however the entries were pushed.
func TestModel(t *testing.T) {
	random := rand.New(rand.NewSource(30))
	pick := sample.Pick(random.Intn)
	answered := 0
	for range 60 {
		l := pick.Pushes(10 + random.Intn(400))
		s, m := both(t, l...)
		pieces := store.New()
		for i := 0; i < len(l); {
			p := l[i]
			for i++; i < len(l) && labels.Same(l[i].Labels, p.Labels); i++ {
				p.List = append(p.List, l[i].List...)
			}
			pieces.Push(p)
		}
		for range 60 {
			a := ask(pick.Query(), random.Intn(60)-10, 50+random.Intn(80), 1+random.Intn(9), random.Intn(9))
			got, want := show(Ask(s, a)), show(m.Ask(a))
			if got != want || show(Ask(pieces, a)) != want {
				t.Fatalf("%v: %s; model %s", a, got, want)
			}
			if strings.HasPrefix(got, "0 at 0; ") {
				answered++
			} else if got != "0 at 0" && got != "280 at 0" {
				t.Fatalf("%v: %s", a, got)
			}
		}
		if s.Len() != len(l) || s.Len() != pieces.Len() {
			t.Fatal("the store was changed")
		}
	}
	if answered < 2000 {
		t.Errorf("%d answers", answered)
	}
}

// TestExtremes covers P30.3 at the ends of times.
func TestExtremes(t *testing.T) {
	s, m := both(t, push(of("a", "x"), entry(-api.MaxNumber, "v=1"), entry(0, "v=2"), entry(api.MaxNumber, "v=3")))
	for _, text := range []string{`{a="x"}`, `count_over_time({a="x"}[1ms])`, `count_over_time({a="x"}[2501999792h59m991ms])`, `sum_over_time({a="x"} | logfmt | unwrap v[2501999792h59m991ms] offset 2501999792h59m991ms)`, `count_over_time({a="x"}[1ms] offset 2501999792h59m991ms)`} {
		for _, a := range []api.Ask{ask(text, -api.MaxNumber, api.MaxNumber, api.MaxNumber, 9), ask(text, api.MaxNumber, api.MaxNumber, api.MaxNumber, 9), ask(text, -api.MaxNumber, -api.MaxNumber, 1, 9), ask(text, -api.MaxNumber, api.MaxNumber, api.MaxNumber-1, 9)} {
			if got, want := show(Ask(s, a)), show(m.Ask(a)); got != want {
				t.Errorf("%v: %s; model %s", a, got, want)
			}
		}
	}
}

// corrupt returns a store with two blocks of 32 entries in each of two streams, at 0 to 63.
func corrupt(t *testing.T) (*store.Store, *model.Model) {
	t.Helper()
	var l []api.Push
	for i := range 70 {
		l = append(l, push(of("a", "x"), entry(i, "v=1")), push(of("a", "y"), entry(i, "v=1")))
	}
	return both(t, l...)
}

// TestCorrupt covers P30.1 and P30.4: a read of a damaged block fails, after the errors up to ErrSteps and before ErrTouch.
func TestCorrupt(t *testing.T) {
	s, m := corrupt(t)
	s.Turn(of("a", "y"), 1, 9, 4) // the entries at 32 to 63
	for i, c := range []struct {
		a api.Ask
		e api.Errno
	}{
		{ask(`{a=~".+"}`, 0, 32, 1, 5), api.OK}, {ask(`{a=~".+"}`, 0, 33, 1, 5), api.ErrCorrupt}, {ask(`{a=~".+"}`, 64, 99, 1, 5), api.OK}, {ask(`{a="x"}`, 0, 99, 1, 5), api.OK}, {ask(`{a=~".+"}`, 40, 50, 1, 0), api.ErrCorrupt}, {ask(`{a=~".+"}`, 40, 40, 1, 0), api.ErrCorrupt},
		{ask(`count_over_time({a="y"}[1ms])`, 0, 31, 1, 0), api.OK}, {ask(`count_over_time({a="y"}[1ms])`, 0, 32, 1, 0), api.ErrCorrupt}, {ask(`count_over_time({a="y"}[1ms])`, 0, 32, 3, 0), api.OK}, {ask(`count_over_time({a="y"}[1ms])`, 0, 33, 3, 0), api.ErrCorrupt}, {ask(`count_over_time({a="y"}[1ms])`, 0, 99, 99, 0), api.ErrCorrupt}, {ask(`count_over_time({a="y"}[6ms])`, 69, 69, 1, 0), api.OK}, {ask(`count_over_time({a="y"}[7ms])`, 69, 69, 1, 0), api.ErrCorrupt}, {ask(`count_over_time({a="y"}[1ms] offset 31ms)`, 62, 62, 1, 0), api.OK}, {ask(`count_over_time({a="y"}[1ms] offset 31ms)`, 63, 63, 1, 0), api.ErrCorrupt},
		{ask(`1 + count_over_time({a="y"}[1ms])`, 0, 32, 1, 0), api.ErrCorrupt}, {ask(`sum(count_over_time({a="x"}[1ms])) + sum(count_over_time({a="y"}[1ms]))`, 40, 40, 1, 0), api.ErrCorrupt}, {ask(`count_over_time({a="y"}[1ms]) +`, 0, 32, 1, 0), api.ErrQuery}, {ask(`count_over_time({a="y"}[1ms]) and 1`, 0, 32, 1, 0), api.ErrType}, {ask(`count_over_time({a="y"}[1ms])`, 0, 3200, 1, 0), api.ErrSteps}, {ask(`count_over_time({a="y"}[1s])`, 0, 999, 1, 0), api.ErrCorrupt}, {ask(`count_over_time({a="x"}[1s])`, 0, 999, 1, 0), api.ErrTouch}, {ask("1", 0, 9, 1, 0), api.OK}, {ask(strings.Repeat("9", 40)+strings.Repeat("*"+strings.Repeat("9", 40), 3)+` + count_over_time({a="y"}[1s])`, 40, 40, 1, 0), api.ErrCorrupt},
	} {
		got := Ask(s, c.a)
		if got.Err != c.e || c.e == api.OK && show(got) != show(m.Ask(c.a)) || c.e == api.ErrCorrupt && show(got) != "80 at 0" {
			t.Errorf("%d: %v: %s", i, c.a, show(got))
		}
	}
	s.Turn(of("a", "y"), 1, 9, 4)
	random := rand.New(rand.NewSource(31))
	failed := 0
	for range 1500 {
		at, by := random.Intn(120), byte(1+random.Intn(255))
		block := random.Intn(2)
		s.Turn(of("a", "y"), block, at, by)
		a := ask([]string{`{a=~".+"}`, `sum(rate({a=~".+"}[5ms]))`, `count_over_time({a="y"}[9ms] offset 5ms)`}[random.Intn(3)], random.Intn(40), 40+random.Intn(40), 1+random.Intn(3), 3)
		got := Ask(s, a)
		if got.Err == api.ErrCorrupt && show(got) == "80 at 0" {
			failed++
		} else if show(got) != show(m.Ask(a)) {
			t.Fatalf("%v: %s", a, show(got))
		}
		s.Turn(of("a", "y"), block, at, by)
	}
	if failed < 200 || failed == 1500 {
		t.Errorf("%d failed", failed)
	}
}

// TestOutside covers P30.5: entries that are not read do not matter.
func TestOutside(t *testing.T) {
	random := rand.New(rand.NewSource(32))
	pick := sample.Pick(random.Intn)
	for range 40 {
		l := pick.Pushes(100)
		s, _ := both(t, l...)
		more := store.New()
		for _, set := range [][]api.Label{of("a", "1"), of("a", "2", "b", "y"), of("z", "1")} {
			more.Push(push(set, entry(-5000, "n=9"), entry(-1000, "n=8")))
		}
		for _, p := range l {
			more.Push(p)
		}
		for i := range 50 {
			more.Push(push(of("a", strconv.Itoa(1+i%4)), entry(5000+i, "n=7")))
		}
		for range 40 {
			a := ask(pick.Query(), random.Intn(40), 40+random.Intn(40), 1+random.Intn(9), 5)
			if got, want := show(Ask(more, a)), show(Ask(s, a)); got != want {
				t.Fatalf("%v: %s, not %s", a, got, want)
			}
		}
	}
}

// TestMemory covers P30.2: results share nothing with one another or with the store.
func TestMemory(t *testing.T) {
	s, _ := both(t, push(of("a", "x"), entry(1, "v=1"), entry(1, "v=1")))
	for _, text := range []string{`{a="x"}`, `count_over_time({a="x"}[9ms])`, "7", "1 + 2", `last_over_time({a="x"} | logfmt | unwrap v[9ms])`, `count_over_time({a="x"}[9ms]) > 1`} {
		a := ask(text, 1, 3, 1, 9)
		got := Ask(s, a)
		want := show(got)
		for i, r := range got.Rows {
			r.Labels[0].Value = "changed"
			if i == 0 && got.Rows[1].Labels[0].Value == "changed" {
				t.Errorf("%s: rows share memory", text)
			}
		}
		for _, x := range got.Series {
			for i := range x.Labels {
				x.Labels[i].Value = "changed"
			}
			x.Points[0].V.Num[0] = 99
			if x.Points[1].V.Num[0] == 99 {
				t.Errorf("%s: points share memory", text)
			}
		}
		if again := show(Ask(s, a)); again != want {
			t.Errorf("%s: %s, before %s", text, again, want)
		}
	}
}
