package numbers

import (
	"strings"
	"testing"

	"driftnet/api"
	"driftnet/rat"
)

// TestCopy covers that copies share nothing.
func TestCopy(t *testing.T) {
	v := api.Rat{Neg: true, Num: []uint32{1}, Den: []uint32{2}}
	w := Copy(v)
	if !rat.Same(v, w) || !rat.Same(Copy(api.Rat{}), api.Rat{}) {
		t.Errorf("%v", w)
	}
	w.Num[0], w.Den[0] = 7, 7
	if v.Num[0] != 1 || v.Den[0] != 2 {
		t.Errorf("%v", v)
	}
}

// TestSum covers that numbers are added in order, and each partial sum may be too big.
func TestSum(t *testing.T) {
	tiny, _ := rat.Read("1/" + strings.Repeat("9", 154))
	seventh, _ := rat.Read("1/7")
	minus, _ := rat.Neg(seventh)
	if v, e := Sum(seventh, minus, tiny); e != api.OK || !rat.Same(v, tiny) {
		t.Errorf("%v, %d", v, e)
	}
	if v, e := Sum(seventh, tiny, minus); e != api.ErrBig || !rat.Same(v, api.Rat{}) {
		t.Errorf("%v, %d", v, e)
	}
	if v, e := Sum(); e != api.OK || !rat.IsZero(v) {
		t.Errorf("%v, %d", v, e)
	}
}
