package judge

import (
	"math/rand"
	"slices"
	"testing"

	"driftnet/api"
	"driftnet/labels"
	"driftnet/rat"
	"driftnet/sample"
)

func push(n int, e api.Errno, l []api.Label, list ...api.Entry) Event {
	return Event{Kind: KindPush, N: n, Err: e, Push: api.Push{Labels: l, List: list}}
}

func ask(text string, at int, answer api.Answer) Event {
	return Event{Kind: KindAsk, Ask: api.Ask{Text: text, Start: at, End: at, Step: 1, Limit: 9}, Answer: answer}
}

func series(v int, at int, l ...string) api.Answer {
	return api.Answer{Series: []api.Series{{Labels: sample.Labels(l...), Points: []api.Point{{At: at, V: rat.Of(v)}}}}}
}

// TestFind covers P31.2 by the examples.
func TestFind(t *testing.T) {
	one := push(1, api.OK, sample.Labels("a", "x"), sample.Entry(5, "k"))
	count := func(v int) Event { return ask(`count_over_time({a="x"}[1s])`, 5, series(v, 5, "a", "x")) }
	failed := func(at int) Event { return ask("1 +", 0, api.Answer{Err: api.ErrQuery, At: at}) }
	with := func(x Event, change func(x *Event)) Event { change(&x); return x }
	for i, c := range []struct {
		l  []Event
		at int
		is bool
	}{
		{nil, 0, false}, {[]Event{one, count(1)}, 0, false}, {[]Event{with(one, func(x *Event) { x.N = 0 }), count(1)}, 0, true}, {[]Event{one, count(2)}, 1, true}, {[]Event{failed(3)}, 0, false}, {[]Event{failed(2)}, 0, true}, {[]Event{{Kind: 3}}, 0, true}, {[]Event{{}}, 0, true}, {[]Event{one, {Kind: -1}}, 1, true},
		{[]Event{one, push(1, api.OK, sample.Labels("a", "x"), sample.Entry(4, "k"))}, 1, true}, {[]Event{one, push(0, api.ErrOrder, sample.Labels("a", "x"), sample.Entry(4, "k")), count(1)}, 0, false}, {[]Event{with(one, func(x *Event) { x.Err = api.ErrOrder })}, 0, true},
		// What does not belong to the kind is ignored.
		{[]Event{with(one, func(x *Event) { x.Answer, x.Ask = series(1, 2), api.Ask{Text: ";"} }), with(count(1), func(x *Event) { x.N, x.Err, x.Push = 7, 8, one.Push })}, 0, false},
		{[]Event{one, ask(`{a="x"}`, 5, api.Answer{})}, 0, false}, {[]Event{one, ask(`{a="x"}`, 5, api.Answer{Rows: []api.Row{{}}})}, 1, true}, {[]Event{count(1)}, 0, true},
	} {
		if at, is := Find(c.l...); at != c.at || is != c.is {
			t.Errorf("%d: %d, %v", i, at, is)
		}
	}
}

func rich() api.Answer {
	return api.Answer{Err: 3, At: 4, Rows: []api.Row{{At: 1, Line: "x", Labels: sample.Labels("a", "1")}, {}}, Series: []api.Series{{Labels: sample.Labels("b", "2"), Points: []api.Point{{At: 7, V: rat.Of(5)}, {At: 8, V: rat.Of(6)}}}}}
}

// TestSame covers P31.3: every part counts.
func TestSame(t *testing.T) {
	if !Same(api.Answer{}, api.Answer{Rows: []api.Row{}, Series: []api.Series{}}) || !Same(rich(), rich()) {
		t.Error("the same")
	}
	for i, change := range []func(a *api.Answer){
		func(a *api.Answer) { a.Err = 0 }, func(a *api.Answer) { a.At = 0 }, func(a *api.Answer) { a.Rows[0].At = 0 }, func(a *api.Answer) { a.Rows[0].Line = "" }, func(a *api.Answer) { a.Rows[0].Labels[0].Value = "" }, func(a *api.Answer) { a.Rows = a.Rows[:1] }, func(a *api.Answer) { a.Rows[1].Labels = sample.Labels("a", "1") }, func(a *api.Answer) { slices.Reverse(a.Rows) },
		func(a *api.Answer) { a.Series[0].Labels[0].Name = "c" }, func(a *api.Answer) { a.Series[0].Points[0].At = 0 }, func(a *api.Answer) { a.Series[0].Points[1].V.Num[0] = 1 }, func(a *api.Answer) { a.Series[0].Points = a.Series[0].Points[1:] }, func(a *api.Answer) { a.Series = nil }, func(a *api.Answer) { a.Series[0].Points[0].V.Neg = true },
	} {
		a := rich()
		if change(&a); Same(a, rich()) || Same(rich(), a) {
			t.Errorf("change %d", i)
		}
	}
}

// events returns random events without results.
func events(random *rand.Rand) []Event {
	pick := sample.Pick(random.Intn)
	var l []Event
	for _, p := range pick.Pushes(40) {
		if random.Intn(4) == 0 {
			p.List = append(p.List, sample.Entry(p.List[0].At-random.Intn(2), "late"))
		}
		l = append(l, Event{Kind: KindPush, Push: p})
		if random.Intn(2) == 0 {
			l = append(l, Event{Kind: KindAsk, Ask: api.Ask{Text: pick.Query(), Start: random.Intn(20), End: 20 + random.Intn(20), Step: 1 + random.Intn(9), Limit: random.Intn(5)}})
		}
	}
	return append(l, Event{Kind: KindAsk, Ask: api.Ask{Text: "1 +", Step: 1}}, Event{Kind: KindAsk}, Event{Kind: KindPush, Push: api.Push{Labels: sample.Labels("a", "")}})
}

// TestPlay covers P31.1, P31.4, P31.5 and P31.6.
func TestPlay(t *testing.T) {
	random := rand.New(rand.NewSource(31))
	for range 25 {
		l := events(random)
		played := Play(l...)
		if at, is := Find(played...); is || at != 0 || len(played) != len(l) {
			t.Fatalf("event %d: %+v", at, played[at])
		}
		changed := 0
		for i, x := range played {
			if x.Kind != l[i].Kind || x.Ask != l[i].Ask || !labels.Same(x.Push.Labels, l[i].Push.Labels) || !slices.Equal(x.Push.List, l[i].Push.List) {
				t.Fatalf("%+v became %+v", l[i], x)
			}
			if x.Kind == KindPush && !Same(x.Answer, api.Answer{}) || x.Kind == KindAsk && (x.N != 0 || x.Err != api.OK) {
				t.Fatalf("%+v", x)
			}
			y := copied(x)
			switch {
			case x.Kind == KindPush && random.Intn(2) == 0:
				y.N++
			case x.Kind == KindPush:
				y.Err++
			case len(y.Answer.Rows) > 0:
				y.Answer.Rows[0].Line += "x"
			case len(y.Answer.Series) > 0:
				y.Answer.Series[0].Points[0].At++
			default:
				y.Answer.At++
			}
			changed++
			events := slices.Clone(played)
			events[i] = y
			if at, is := Find(events...); !is || at != i {
				t.Fatalf("event %d was changed, found %d, %v", i, at, is)
			}
			if at, is := Find(events[:i+1]...); !is || at != i {
				t.Fatalf("event %d was changed, found %d, %v", i, at, is)
			}
		}
	}
}

// TestKinds covers P31.1: results that do not belong to the kind, events of other kinds, and memory.
func TestKinds(t *testing.T) {
	odd := Event{Kind: 9, N: 7, Err: 8, Answer: rich(), Ask: api.Ask{Text: "x"}, Push: api.Push{Labels: sample.Labels("a", "1"), List: []api.Entry{sample.Entry(1, "x")}}}
	one, two := odd, odd
	one.Kind, two.Kind = KindPush, KindAsk
	l := Play(odd, one, two)
	if x := l[0]; x.Kind != 9 || x.N != 7 || x.Err != 8 || !Same(x.Answer, rich()) || x.Ask != odd.Ask || len(x.Push.List) != 1 {
		t.Errorf("%+v", x)
	}
	if x := l[1]; x.N != 1 || x.Err != api.OK || !Same(x.Answer, api.Answer{}) || x.Ask != odd.Ask {
		t.Errorf("%+v", x)
	}
	if x := l[2]; x.N != 0 || x.Err != api.OK || x.Answer.Err != api.ErrArg || len(x.Answer.Rows) > 0 || len(x.Push.Labels) != 1 {
		t.Errorf("%+v", x)
	}
	for _, x := range l {
		x.Push.Labels[0].Value, x.Push.List[0].Line = "changed", "changed"
	}
	l[0].Answer.Rows[0].Labels[0].Value, l[0].Answer.Rows[0].Line, l[0].Answer.Series[0].Labels[0].Name = "changed", "changed", "changed"
	l[0].Answer.Series[0].Points[0].At, l[0].Answer.Series[0].Points[1].V.Num[0] = 99, 99
	if !Same(odd.Answer, rich()) || odd.Push.Labels[0].Value != "1" || odd.Push.List[0].Line != "x" {
		t.Errorf("%+v", odd)
	}
	if len(Play()) > 0 || KindPush != 1 || KindAsk != 2 {
		t.Error("no events")
	}
}
