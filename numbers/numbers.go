// Package numbers has what several layers do with numbers: copying and adding them up.
package numbers

import (
	"slices"

	"driftnet/api"
	"driftnet/rat"
)

// Copy returns a number in new memory.
func Copy(v api.Rat) api.Rat {
	return api.Rat{Neg: v.Neg, Num: slices.Clone(v.Num), Den: slices.Clone(v.Den)}
}

// Sum adds numbers one by one, to 0; each partial sum may be too big.
func Sum(l ...api.Rat) (api.Rat, api.Errno) {
	total := rat.Of(0)
	for _, v := range l {
		var e api.Errno
		if total, e = rat.Add(total, v); e != api.OK {
			return api.Rat{}, e
		}
	}
	return total, api.OK
}
