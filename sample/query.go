package sample

import (
	"driftnet/api"
	"driftnet/labels"
)

// Query returns the text of a query over the entries that Pushes returns; its parts fit together.
func (pick Pick) Query() string {
	switch pick(9) {
	case 0:
		return pick.selector() + pick.stages()
	case 1, 2:
		return pick.series()
	case 3:
		return pick.of("sum", "avg", "min", "max", "count") + pick.grouping() + "(" + pick.series() + ")"
	case 4:
		return pick.of("2", "1 / 0", "-1") + pick.of(" + ", " * ", " < bool ") + "3"
	case 5:
		return pick.of("topk", "bottomk") + pick.grouping() + "(" + pick.of("1", "2") + ", " + pick.series() + ")"
	case 6:
		return pick.of("sort", "sort_desc") + "(" + pick.series() + pick.of(" and ", " or ", " unless ", " and on (a) ", " or ignoring (b, n) ") + pick.series() + ")"
	case 7:
		return pick.series() + pick.of(" + on (a) ", " > ignoring (b) ", " / on (a) group_left (b) ", " - on (a) group_right () ") + "sum by (a)(" + pick.series() + ")"
	}
	return pick.of(pick.series(), "2", "(1 / 0)") + pick.of(" + ", " / ", " > ", " == bool ") + pick.series()
}

// of returns one of the texts.
func (pick Pick) of(l ...string) string {
	return l[pick(len(l))]
}

func (pick Pick) selector() string {
	return pick.of(`{a="1"}`, `{a=~".+"}`, `{a!="2"}`, `{b=""}`, `{a=~"1|3",b!~"x"}`)
}

func (pick Pick) stages() string {
	return pick.of("", "", ` |= "n=1"`, ` != "q"`, " | logfmt", " | logfmt | n > 2", ` | logfmt | line_format "{{.n}}"`, " | json", ` | pattern "n=<p> <_>"`, ` | regexp "n=(?P<r>[0-9])"`, " | logfmt | drop n", ` | logfmt | (n > 1s or a = "2")`)
}

func (pick Pick) grouping() string {
	return pick.of("", " by (a)", " without (a)", " by (a, n) ")
}

// series returns a function over a range.
func (pick Pick) series() string {
	over := "[" + pick.of("1ms", "3ms", "10ms", "25ms") + "]" + pick.of("", "", " offset 2ms")
	if pick(2) == 0 {
		fn := pick.of("count_over_time", "rate", "bytes_over_time", "bytes_rate", "absent_over_time")
		return fn + "(" + pick.selector() + pick.stages() + over + ")"
	}
	fn := pick.of("sum_over_time(", "avg_over_time(", "min_over_time(", "max_over_time(", "first_over_time(", "last_over_time(", "quantile_over_time(0.3, ")
	return fn + pick.selector() + " | logfmt" + pick.of("", ` | label_format n = "{{.n}}.5"`) + " | unwrap n" + pick.of("", ` | __error__ = ""`) + over + ")"
}

// Pushes returns count pushes of one entry each, all of which are accepted.
func (pick Pick) Pushes(count int) []api.Push {
	var l []api.Push
	last := map[string]int{}
	for range count {
		set := []api.Label{{Name: "a", Value: pick.of("1", "2", "3", "4")}}
		if pick(3) == 0 {
			set = append(set, api.Label{Name: "b", Value: "y"})
		}
		key := labels.Key(set)
		last[key] += pick(3)
		line := pick.of("n=1 m=2", "n=2", "n=3s", "q", `{"n":5}`, "n=0.5")
		l = append(l, api.Push{Labels: set, List: []api.Entry{{At: last[key], Line: line}}})
	}
	return l
}
