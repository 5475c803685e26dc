package sample

import (
	"strconv"
	"strings"

	"driftnet/api"
	"driftnet/labels"
	"driftnet/quote"
	"driftnet/rat"
)

// Labels returns labels of names and values in turn.
func Labels(l ...string) []api.Label {
	var out []api.Label
	for i := 0; i+1 < len(l); i += 2 {
		out = append(out, api.Label{Name: l[i], Value: l[i+1]})
	}
	return out
}

// Entry returns an entry.
func Entry(at int, line string) api.Entry {
	return api.Entry{At: at, Line: line}
}

// Push returns a push of entries.
func Push(l []api.Label, list ...api.Entry) api.Push {
	return api.Push{Labels: l, List: list}
}

// Ask returns a request.
func Ask(text string, start, end, step, limit int) api.Ask {
	return api.Ask{Text: text, Start: start, End: end, Step: step, Limit: limit}
}

// Show returns all of an answer, as one line.
func Show(a api.Answer) string {
	var parts []string
	if a.Err != api.OK || a.At != 0 {
		parts = append(parts, "error "+strconv.Itoa(int(a.Err))+" at "+strconv.Itoa(a.At))
	}
	for _, r := range a.Rows {
		parts = append(parts, strconv.Itoa(r.At)+" "+labels.Text(r.Labels)+" "+quote.Quote(r.Line))
	}
	for _, s := range a.Series {
		text := labels.Text(s.Labels)
		for _, p := range s.Points {
			v, _ := rat.Text(p.V)
			text += " " + strconv.Itoa(p.At) + "=" + v
		}
		parts = append(parts, text)
	}
	return strings.Join(parts, "; ")
}
