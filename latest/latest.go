// Package latest settles which of several labels with the same name counts. It serves the parsers of lines.
package latest

import (
	"slices"
	"strings"

	"driftnet/api"
)

// Of returns the labels of l, ordered: of those with the same name the last one, and none with an empty value.
func Of(l []api.Label) []api.Label {
	sorted := slices.Clone(l)
	slices.SortStableFunc(sorted, func(a, b api.Label) int { return strings.Compare(a.Name, b.Name) })
	var out []api.Label
	for i, x := range sorted {
		isLast := i+1 == len(sorted) || sorted[i+1].Name != x.Name
		if isLast && x.Value != "" {
			out = append(out, x)
		}
	}
	return out
}
