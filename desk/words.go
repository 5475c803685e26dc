package desk

import (
	"strconv"
	"strings"

	"driftnet/api"
	"driftnet/labels"
	"driftnet/parse"
)

// alone fails unless the line is just its first word.
func alone(line, word string) {
	if line != word {
		panic(badLine{})
	}
}

// cut returns the numbers behind the first word of a line, and the rest behind these.
func cut(line string, count int) ([]int, string) {
	fields := strings.SplitN(line, " ", count+2)
	if len(fields) < count+2 {
		panic(badLine{})
	}
	var numbers []int
	for _, field := range fields[1 : count+1] {
		n, err := strconv.Atoi(field)
		if err != nil || strconv.Itoa(n) != field || n < -api.MaxNumber || n > api.MaxNumber {
			panic(badLine{})
		}
		numbers = append(numbers, n)
	}
	return numbers, fields[count+1]
}

// request returns the request of a line with four numbers and a text.
func request(line string) api.Ask {
	numbers, text := cut(line, 4)
	return api.Ask{Text: text, Start: numbers[0], End: numbers[1], Step: numbers[2], Limit: numbers[3]}
}

// selector returns the labels and the stages of a selector.
func selector(text string) ([]api.Label, []api.Stage) {
	x, _, e := parse.Parse(text)
	if e != api.OK || x.Kind != api.ExprLog {
		panic(badLine{})
	}
	var l []api.Label
	for _, m := range x.Matchers {
		if m.Kind != api.MatchIs {
			panic(badLine{})
		}
		l = append(l, api.Label{Name: m.Name, Value: m.Value})
	}
	set, e := labels.Of(l)
	if e != api.OK {
		panic(badLine{})
	}
	return set, x.Stages
}
