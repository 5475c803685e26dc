package model

import (
	"math"
	"math/rand"
	"slices"
	"strconv"
	"strings"
	"testing"

	"driftnet/api"
	"driftnet/labels"
	"driftnet/rat"
	"driftnet/sample"
	"driftnet/store"
)

func fill(t *testing.T, l ...api.Push) *Model {
	t.Helper()
	m := New()
	for _, p := range l {
		if n, e := m.Push(p); n != len(p.List) || e != api.OK {
			t.Fatalf("%v: %d, %d", p, n, e)
		}
	}
	return m
}

func example(t *testing.T) *Model {
	t.Helper()
	return fill(t, sample.Push(sample.Labels("a", "x"), sample.Entry(1000, "ms=5"), sample.Entry(2000, "ms=7")), sample.Push(sample.Labels("a", "y"), sample.Entry(2000, "ms=9")))
}

// TestPush covers P29.1: pushes are accepted and refused as by a store.
func TestPush(t *testing.T) {
	random := rand.New(rand.NewSource(29))
	m, s := New(), store.New()
	long := strings.Repeat("x", 4097)
	errors := map[api.Errno]int{}
	for i := range 5000 {
		p := sample.Push(sample.Labels("n", strconv.Itoa(random.Intn(230))))
		switch random.Intn(20) {
		case 0:
			p.Labels = sample.Labels("n", "")
		case 1:
			p.Labels = sample.Labels("b", "1", "a", "1")
		}
		for range random.Intn(4) {
			x := sample.Entry(i+random.Intn(20)-i%7, []string{"", "line", "line", long[1:], long}[random.Intn(5)])
			if random.Intn(40) == 0 {
				x.At = []int{api.MaxNumber + 1, math.MinInt, -api.MaxNumber, api.MaxNumber}[random.Intn(4)]
			}
			p.List = append(p.List, x)
		}
		n, e := m.Push(p)
		k, f := s.Push(p)
		errors[e]++
		if n != k || e != f || m.Streams() != s.Streams() || m.Len() != s.Len() {
			t.Fatalf("%v: %d, %d; a store %d, %d", p, n, e, k, f)
		}
	}
	for _, e := range []api.Errno{api.OK, api.ErrLabels, api.ErrFull, api.ErrRange, api.ErrOrder, api.ErrLine} {
		if errors[e] == 0 {
			t.Errorf("no error %d", e)
		}
	}
	if m.Streams() != 200 {
		t.Errorf("%d streams", m.Streams())
	}
}

// TestAsk covers P29.2: answers to requests.
func TestAsk(t *testing.T) {
	m := example(t)
	for i, c := range []struct {
		a    api.Ask
		want string
	}{
		{sample.Ask(`{a="x"}`, 0, 3000, 1, 1), `2000 {a="x"} "ms=7"`},
		{sample.Ask(`count_over_time({a=~".+"}[2s])`, 2000, 2000, 1, 0), `{a="x"} 2000=2; {a="y"} 2000=1`},
		{sample.Ask(`sum(sum_over_time({a=~".+"} | logfmt | unwrap ms[2s]))`, 2000, 2000, 1, 0), `{} 2000=21`},
		{sample.Ask("1 / 0", 0, 0, 1, 0), ""}, {sample.Ask("7", 0, 5, 5, 0), "{} 0=7 5=7"}, {sample.Ask(`absent_over_time({a="z"}[1s])`, 2000, 2000, 1, 0), "{} 2000=1"},
		// Rows: the start is included, the end is not; the last ones, in order.
		{sample.Ask(`{a=~".+"}`, 1000, 2000, 1, 9), `1000 {a="x"} "ms=5"`}, {sample.Ask(`{a=~".+"}`, 1001, 2001, 1, 9), `2000 {a="x"} "ms=7"; 2000 {a="y"} "ms=9"`}, {sample.Ask(`{a=~".+"}`, 0, 2001, 1, 1), `2000 {a="y"} "ms=9"`}, {sample.Ask(`{a=~".+"}`, 0, 2001, 1, 0), ""}, {sample.Ask(`{a=~".+"}`, 2000, 2000, 1, 9), ""}, {sample.Ask(`{a="z"}`, 0, 9999, 1, 9), ""}, {sample.Ask(`{a=~".+"} | logfmt | ms > 5 | line_format "{{.ms}}"`, 0, 9999, 1, 9), `2000 {a="x", ms="7"} "7"; 2000 {a="y", ms="9"} "9"`},
		// Ranges: the start is not included, the end is.
		{sample.Ask(`count_over_time({a="x"}[1s])`, 1000, 3000, 1000, 0), `{a="x"} 1000=1 2000=1`}, {sample.Ask(`count_over_time({a="x"}[1001ms])`, 2000, 3000, 500, 0), `{a="x"} 2000=2 2500=1 3000=1`}, {sample.Ask(`count_over_time({a="x"}[1s] offset 1s)`, 1000, 3500, 500, 0), `{a="x"} 2000=1 2500=1 3000=1 3500=1`}, {sample.Ask(`rate({a="x"}[2s])`, 2000, 2000, 1, 0), `{a="x"} 2000=1`}, {sample.Ask(`bytes_over_time({a="x"} | line_format "{{__line__}}!"[2s])`, 2000, 2000, 1, 0), `{a="x"} 2000=10`},
		// Series by the labels after the pipeline; without a number only where none is needed.
		{sample.Ask(`count_over_time({a="x"} | logfmt[2s])`, 2000, 2000, 1, 0), `{a="x", ms="5"} 2000=1; {a="x", ms="7"} 2000=1`}, {sample.Ask(`count_over_time({a="x"} | json[2s])`, 2000, 2000, 1, 0), `{__error__="JSONErr", a="x"} 2000=2`}, {sample.Ask(`sum_over_time({a="x"} | unwrap ms[2s])`, 2000, 2000, 1, 0), ""}, {sample.Ask(`sum_over_time({a="x"} | label_format ms = "q" | unwrap ms[2s])`, 2000, 2000, 1, 0), ""}, {sample.Ask(`absent_over_time({a="x"} |= "z"[2s])`, 2000, 2000, 1, 0), "{} 2000=1"}, {sample.Ask(`absent_over_time({a="x"}[2s])`, 2000, 9000, 3500, 0), "{} 5500=1 9000=1"}, {sample.Ask(`quantile_over_time(0.5, {a="x"} | logfmt | unwrap ms[2s])`, 2000, 2000, 1, 0), `{a="x"} 2000=6`},
		// Operators, and numbers that do not exist.
		{sample.Ask(`sort_desc(count_over_time({a=~".+"}[2s]))`, 2000, 2000, 1, 0), `{a="x"} 2000=2; {a="y"} 2000=1`}, {sample.Ask(`topk(1, count_over_time({a=~".+"}[2s]))`, 1000, 2000, 1000, 0), `{a="x"} 1000=1 2000=2`}, {sample.Ask(`count_over_time({a=~".+"}[2s]) > 1`, 1000, 2000, 1000, 0), `{a="x"} 2000=2`}, {sample.Ask(`1 - count_over_time({a="x"}[2s])`, 2000, 2000, 1, 0), `{a="x"} 2000=-1`}, {sample.Ask(`1 / 0 + count_over_time({a="x"}[2s])`, 2000, 2000, 1, 0), ""}, {sample.Ask(`count_over_time({a="x"}[2s]) or on () (1 / 0 + count_over_time({a="x"}[2s]))`, 2000, 2000, 1, 0), `{a="x"} 2000=2`}, {sample.Ask("1 / 0 + 1", 0, 0, 1, 0), ""}, {sample.Ask("1 > bool 1 / 0", 0, 0, 1, 0), ""}, {sample.Ask("1 > bool 0", 0, 0, 1, 0), "{} 0=1"}, {sample.Ask(`sum(count_over_time({a="z"}[2s]))`, 0, 0, 1, 0), ""}, {sample.Ask(`count_over_time({a=~".+"}[2s]) / on () group_left () sum(count_over_time({a=~".+"}[2s]))`, 2000, 2000, 1, 0), `{a="x"} 2000=2/3; {a="y"} 2000=1/3`}, {sample.Ask(`count_over_time({a=~".+"}[2s]) + on () sum(count_over_time({a=~".+"}[2s]))`, 1000, 2000, 1000, 0), "error 280 at 0"},
		{sample.Ask("7", -api.MaxNumber, api.MaxNumber, api.MaxNumber, 1000), "{} -9007199254740991=7 0=7 9007199254740991=7"}, {sample.Ask(`count_over_time({a="x"}[2501999792h] offset 2501999792h)`, -api.MaxNumber, api.MaxNumber, api.MaxNumber, 1000), `{a="x"} 9007199254740991=2`},
	} {
		if got := sample.Show(m.Ask(c.a)); got != c.want {
			t.Errorf("%d: %v: %s", i, c.a, got)
		}
	}
	if m.Len() != 3 || m.Streams() != 2 {
		t.Errorf("%d entries, %d streams", m.Len(), m.Streams())
	}
}

// TestErrors covers P29.2 and P29.3: the errors, in their order.
func TestErrors(t *testing.T) {
	m := example(t)
	for i, c := range []struct {
		a  api.Ask
		e  api.Errno
		at int
	}{
		{sample.Ask("1 +", -api.MaxNumber-1, 0, 1, 0), api.ErrArg, 0}, {sample.Ask("1 +", 0, api.MaxNumber+1, 1, 0), api.ErrArg, 0}, {sample.Ask("1", 1, 0, 1, 0), api.ErrArg, 0}, {sample.Ask("1", 0, 0, 0, 0), api.ErrArg, 0}, {sample.Ask("1", 0, 0, -1, 0), api.ErrArg, 0}, {sample.Ask("1", 0, 0, api.MaxNumber+1, 0), api.ErrArg, 0}, {sample.Ask("1", 0, 0, 1, -1), api.ErrArg, 0}, {sample.Ask("1", 0, 0, 1, 1001), api.ErrArg, 0}, {sample.Ask("1", math.MinInt, math.MaxInt, 1, 1), api.ErrArg, 0},
		{sample.Ask("1 +", 0, 5000, 1, 0), api.ErrQuery, 3}, {sample.Ask("1 ;", 0, 0, 1, 0), api.ErrToken, 2}, {sample.Ask("topk(0, 1)", 0, 0, 1, 0), api.ErrQuery, 0}, {sample.Ask(strings.Repeat(" ", 4097), 0, 0, 1, 0), api.ErrLimit, 0}, {sample.Ask(strings.Repeat("1+", 20)+"1", 0, 0, 1, 0), api.ErrDepth, 0},
		{sample.Ask("1 < 2", 0, 5000, 1, 0), api.ErrType, 0}, {sample.Ask(`{a=~"("}`, 0, 5000, 1, 0), api.ErrRegex, 0}, {sample.Ask(`{a="x"} | pattern "x"`, 0, 0, 1, 0), api.ErrPattern, 0}, {sample.Ask(`{a="x"} | line_format "{{"`, 0, 0, 1, 0), api.ErrTemplate, 0},
		{sample.Ask("1", 0, 1000, 1, 0), api.ErrSteps, 0}, {sample.Ask("1", -api.MaxNumber, api.MaxNumber, 1, 0), api.ErrSteps, 0}, {sample.Ask("1", 0, 1999, 2, 0), api.OK, 0}, {sample.Ask("1", 0, 999, 1, 0), api.OK, 0}, {sample.Ask(`{a="x"}`, 0, 5000, 1, 0), api.OK, 0},
	} {
		if got := m.Ask(c.a); got.Err != c.e || got.At != c.at || c.e != api.OK && len(got.Rows)+len(got.Series) > 0 {
			t.Errorf("%d: %s", i, sample.Show(got))
		}
		if n, e := m.Touched(c.a); e != c.e || e != api.OK && n != 0 {
			t.Errorf("%d: %d, %d", i, n, e)
		}
	}
	for _, m := range []*Model{nil, {}} {
		n, e := m.Push(sample.Push(sample.Labels("a", ""), sample.Entry(1, "")))
		k, f := m.Touched(sample.Ask("1 +", 1, 0, 0, 0))
		if got := sample.Show(m.Ask(sample.Ask("1 +", 1, 0, 0, 0))); got != "error 1 at 0" || n != 0 || e != api.ErrNil || k != 0 || f != api.ErrNil || m.Streams() != 0 || m.Len() != 0 {
			t.Errorf("a model that is none: %s", got)
		}
	}
}

// TestLimits covers P29.2: too many entries, series and limbs.
func TestLimits(t *testing.T) {
	m := New()
	for i := range 200 {
		var l []api.Entry
		for j := range 100 {
			l = append(l, sample.Entry(j, "n="+strconv.Itoa(j%2)))
		}
		m.Push(sample.Push(sample.Labels("s", strconv.Itoa(i)), l...))
	}
	for i, c := range []struct {
		a       api.Ask
		want    api.Errno
		touched int
	}{
		{sample.Ask(`{s=~".+"}`, 0, 100, 1, 5), api.OK, 20000}, {sample.Ask(`{s=~".+"}`, 0, 99, 1, 5), api.OK, 19800},
		{sample.Ask(`sum(count_over_time({s=~".+"}[100ms]))`, 99, 99, 1, 0), api.OK, 20000}, {sample.Ask(`sum(count_over_time({s=~".+"}[100ms])) + sum(count_over_time({s="0"}[1ms]))`, 99, 99, 1, 0), api.ErrTouch, 20001}, {sample.Ask(`count_over_time({s="0"}[100ms])`, 0, 999, 1, 0), api.OK, 10000}, {sample.Ask(`count_over_time({s=~"0|1|2"}[100ms])`, 0, 999, 1, 0), api.ErrTouch, 30000}, {sample.Ask(`count_over_time({s=~"0|1|2"} |= "nothing"[100ms])`, 0, 999, 1, 0), api.ErrTouch, 30000}, {sample.Ask("1", 0, 999, 1, 0), api.OK, 0},
		{sample.Ask(`count_over_time({s=~".+"}[1ms])`, 0, 0, 1, 0), api.OK, 200}, {sample.Ask(`count_over_time({s=~".+"} | logfmt[2ms])`, 1, 1, 1, 0), api.ErrSeries, 400}, {sample.Ask(`sum_over_time({s=~".+"} | logfmt | label_format v = "1" | unwrap v[2ms])`, 1, 1, 1, 0), api.ErrSeries, 400}, {sample.Ask(`sum_over_time({s=~".+"} | logfmt | label_format v = "1" | unwrap v | n = "1"[2ms])`, 1, 1, 1, 0), api.OK, 400}, {sample.Ask(`sum_over_time({s=~".+"} | logfmt | label_format v = "x" | unwrap v[2ms])`, 1, 1, 1, 0), api.OK, 400},
		{sample.Ask(`count_over_time({s=~".+"} | logfmt | n = "0"[1ms]) or count_over_time({s=~".+"} | logfmt | n = "1"[1ms] offset 1ms)`, 2, 2, 1, 0), api.ErrSeries, 400}, {sample.Ask(`sum(count_over_time({s=~".+"} | logfmt | n = "0"[1ms]) or count_over_time({s=~".+"} | logfmt | n = "1"[1ms] offset 1ms))`, 2, 2, 1, 0), api.ErrSeries, 400},
		{sample.Ask(`sum(count_over_time({s=~".+"} | logfmt[2ms]))`, 1, 1, 1, 0), api.ErrSeries, 400}, {sample.Ask(`absent_over_time({s=~".+"} | logfmt[2ms])`, 1, 1, 1, 0), api.ErrSeries, 400}, {sample.Ask(`absent_over_time({s=~".+"}[2ms])`, 1, 1, 1, 0), api.OK, 400},
		// Each instant has 200 series, but together they have more.
		{sample.Ask(`count_over_time({s=~".+"} | logfmt[1ms])`, 0, 1, 1, 0), api.ErrSeries, 400}, {sample.Ask(`count_over_time({s=~".+"} | logfmt[1ms])`, 0, 2, 2, 0), api.OK, 400}, {sample.Ask(`sum(count_over_time({s=~".+"} | logfmt[1ms]))`, 0, 1, 1, 0), api.OK, 400},
		// The evaluation of a later instant fails before there are too many series.
		{sample.Ask(`count_over_time({s=~".+"} | logfmt[1ms]) + on (s) group_left () (count_over_time({s=~".+"}[2ms]) == 2)`, 0, 1, 1, 0), api.OK, 1000},
	} {
		got := m.Ask(c.a)
		if got.Err != c.want || got.At != 0 || c.want != api.OK && len(got.Rows)+len(got.Series) > 0 {
			t.Errorf("%d: %v: error %d", i, c.a, got.Err)
		}
		if n, e := m.Touched(c.a); n != c.touched || e != api.OK {
			t.Errorf("%d: %d touched, %d", i, n, e)
		}
	}
	m.Push(sample.Push(sample.Labels("s", "0"), sample.Entry(99, "")))
	if got := m.Ask(sample.Ask(`{s=~".+"}`, 0, 100, 1, 5)); got.Err != api.ErrTouch {
		t.Errorf("error %d", got.Err)
	}
}

// TestOrder covers P29.2: errors of evaluation come instant by instant and part by part.
func TestOrder(t *testing.T) {
	big := strings.Repeat("9", 40)
	product := big + " * " + strings.Repeat(big+" * ", 2) + big
	m := fill(t, sample.Push(sample.Labels("a", "x", "b", "1"), sample.Entry(1, "v=1"), sample.Entry(2, "v=1")), sample.Push(sample.Labels("a", "x", "b", "2"), sample.Entry(2, "v=1")))
	// Four numbers with so many digits have a product that is just not too big, but twice it is.
	great := strings.Repeat("9", 40) + " * " + strings.Repeat("9", 40) + " * " + strings.Repeat("9", 40) + " * " + strings.Repeat("9", 34)
	many := `count_over_time({a="x"}[1ms]) + on (a) count_over_time({a="x"}[1ms])`
	for i, c := range []struct {
		a api.Ask
		e api.Errno
	}{
		{sample.Ask(product, 0, 0, 1, 0), api.ErrBig}, {sample.Ask(strings.Join(strings.Split(product, " * ")[:3], " * "), 0, 0, 1, 0), api.OK},
		{sample.Ask("("+product+") * count_over_time({a=\"x\"}[1ms])", 9, 9, 1, 0), api.ErrBig}, {sample.Ask("1 / 0 + "+product, 9, 9, 1, 0), api.ErrBig},
		{sample.Ask(`sum(count_over_time({a="x"}[1ms]) * `+great+")", 1, 1, 1, 0), api.OK}, {sample.Ask(`sum(count_over_time({a="x"}[1ms]) * `+great+")", 1, 2, 1, 0), api.ErrBig}, {sample.Ask(`count_over_time({a="x"}[1ms]) * `+great, 1, 2, 1, 0), api.OK}, {sample.Ask(`sum(sum(count_over_time({a="x"}[1ms]) * `+great+")) + 1", 2, 2, 1, 0), api.ErrBig},
		{sample.Ask(many, 1, 1, 1, 0), api.OK}, {sample.Ask(many, 1, 2, 1, 0), api.ErrMany}, {sample.Ask("("+many+") + ("+product+")", 1, 2, 1, 0), api.ErrBig}, {sample.Ask("("+many+") + ("+product+")", 2, 2, 1, 0), api.ErrMany}, {sample.Ask("("+product+") + ("+many+")", 2, 2, 1, 0), api.ErrBig},
	} {
		if got := m.Ask(c.a); got.Err != c.e {
			t.Errorf("%d: error %d", i, got.Err)
		}
	}
}

// TestLaws covers P29.5 to P29.8 on random entries and queries.
func TestLaws(t *testing.T) {
	random := rand.New(rand.NewSource(30))
	pick := sample.Pick(random.Intn)
	answered := 0
	for range 40 {
		l := pick.Pushes(60)
		m := fill(t, l...)
		byStream := slices.Clone(l)
		slices.SortStableFunc(byStream, func(a, b api.Push) int { return labels.Compare(b.Labels, a.Labels) })
		other := fill(t, byStream...)
		shift := random.Intn(2_000_000) - 1_000_000
		shifted := New()
		for _, p := range l {
			shifted.Push(sample.Push(p.Labels, sample.Entry(p.List[0].At+shift, p.List[0].Line)))
		}
		for range 60 {
			a := sample.Ask(pick.Query(), random.Intn(20), 20+random.Intn(20), 1+random.Intn(7), 1000)
			got := m.Ask(a)
			if got.Err == api.OK {
				answered++
			} else if got.Err != api.ErrMany {
				t.Fatalf("%v: %s", a, sample.Show(got))
			}
			if sample.Show(other.Ask(a)) != sample.Show(got) {
				t.Fatalf("%v: the order of streams matters", a)
			}
			b := a
			b.Start, b.End = a.Start+shift, a.End+shift
			moved := shifted.Ask(b)
			for i := range moved.Rows {
				moved.Rows[i].At -= shift
			}
			for i := range moved.Series {
				for j := range moved.Series[i].Points {
					moved.Series[i].Points[j].At -= shift
				}
			}
			if sample.Show(moved) != sample.Show(got) {
				t.Fatalf("%v: %s; shifted %s", a, sample.Show(got), sample.Show(moved))
			}
			checkParts(t, m, a, got)
		}
	}
	if answered < 1500 {
		t.Errorf("%d answers", answered)
	}
}

// checkParts compares an answer with those to parts of the request.
func checkParts(t *testing.T, m *Model, a api.Ask, got api.Answer) {
	t.Helper()
	if strings.HasPrefix(a.Text, "{") {
		middle := (a.Start + a.End) / 2
		one, two := m.Ask(sample.Ask(a.Text, a.Start, middle, 1, 1000)), m.Ask(sample.Ask(a.Text, middle, a.End, 1, 1000))
		if sample.Show(api.Answer{Rows: append(one.Rows, two.Rows...)}) != sample.Show(got) {
			t.Fatalf("%v: %s and %s", a, sample.Show(one), sample.Show(two))
		}
		return
	}
	points := map[string]string{}
	failed := false
	for at := a.Start; at <= a.End; at += a.Step {
		one := m.Ask(sample.Ask(a.Text, at, at, a.Step, 0))
		failed = failed || one.Err != api.OK
		for _, s := range one.Series {
			v, _ := rat.Text(s.Points[0].V)
			points[labels.Text(s.Labels)] += " " + strconv.Itoa(at) + "=" + v
		}
	}
	if failed != (got.Err != api.OK) || !failed && len(points) != len(got.Series) {
		t.Fatalf("%v: %s", a, sample.Show(got))
	}
	for _, s := range got.Series {
		one := api.Answer{Series: []api.Series{s}}
		if sample.Show(one) != labels.Text(s.Labels)+points[labels.Text(s.Labels)] {
			t.Fatalf("%v: %s", a, sample.Show(one))
		}
	}
}

// TestCounts covers P29.9: the counts over all series add up to the number of entries.
func TestCounts(t *testing.T) {
	random := rand.New(rand.NewSource(31))
	pick := sample.Pick(random.Intn)
	for range 30 {
		m := fill(t, pick.Pushes(60)...)
		for _, stages := range []string{"", " | logfmt", " | json", ` | regexp "(?P<x>.)"`} {
			got := m.Ask(sample.Ask("sum(count_over_time({a=~\".*\"}"+stages+"[1h]))", 1000, 1000, 1, 0))
			if sample.Show(got) != "{} 1000="+strconv.Itoa(m.Len()) {
				t.Errorf("%s: %s", stages, sample.Show(got))
			}
		}
	}
}

// TestMemory covers P29.4: arguments are not retained, and results share nothing.
func TestMemory(t *testing.T) {
	p := sample.Push(sample.Labels("a", "x"), sample.Entry(1, "v=1"))
	m := fill(t, p)
	p.Labels[0].Value, p.List[0].Line = "changed", "changed"
	for _, text := range []string{`{a="x"}`, `count_over_time({a="x"}[9ms])`, "7", `{a="x"} | logfmt`} {
		a := sample.Ask(text, 1, 3, 1, 9)
		first := m.Ask(a)
		want := sample.Show(first)
		for i := range first.Rows {
			first.Rows[i].Labels[0].Value = "changed"
		}
		for _, s := range first.Series {
			for i := range s.Labels {
				s.Labels[i].Value = "changed"
			}
			s.Points[0].V.Num[0] = 99
			if len(s.Points) > 1 && s.Points[1].V.Num[0] == 99 {
				t.Errorf("%s: points share memory", text)
			}
		}
		if got := sample.Show(m.Ask(a)); got != want {
			t.Errorf("%s: %s, before %s", text, got, want)
		}
	}
}
