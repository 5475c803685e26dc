package latest

import (
	"slices"
	"testing"

	"driftnet/api"
)

// TestOf covers what logfmt and jscan have in common: the last label with a name counts, also if it is empty.
func TestOf(t *testing.T) {
	l := []api.Label{{Name: "b", Value: "1"}, {Name: "a", Value: "1"}, {Name: "b", Value: "2"}, {Name: "c", Value: "1"}, {Name: "a", Value: "3"}, {Name: "a", Value: "2"}, {Name: "c"}, {Name: "d"}, {Name: "d", Value: "4"}}
	kept := slices.Clone(l)
	got := Of(l)
	if !slices.Equal(got, []api.Label{{Name: "a", Value: "2"}, {Name: "b", Value: "2"}, {Name: "d", Value: "4"}}) || !slices.Equal(l, kept) || len(Of(nil)) > 0 {
		t.Errorf("%v", got)
	}
}
