package words

import (
	"testing"

	"driftnet/api"
)

// TestNames covers the names of functions and operators, both ways.
func TestNames(t *testing.T) {
	for fn := 1; fn <= api.FnQuantile; fn++ {
		if FindRange(Range(fn)) != fn {
			t.Errorf("range function %d: %s", fn, Range(fn))
		}
	}
	for fn := 1; fn <= api.AggSortDesc; fn++ {
		if FindVector(Vector(fn)) != fn {
			t.Errorf("vector function %d: %s", fn, Vector(fn))
		}
	}
	for op := api.OpEq; op <= api.OpUnless; op++ {
		if FindOp(Op(op), api.OpEq, api.OpUnless) != op || Strength(op) == 0 {
			t.Errorf("operator %d: %s", op, Op(op))
		}
	}
	if Range(api.FnByteRate) != "bytes_rate" || Vector(api.AggBottomk) != "bottomk" || Op(api.OpNe) != "!=" || Op(api.OpUnless) != "unless" || FindOp("!=", 1, 4) != api.OpNot {
		t.Error("names")
	}
	for i, group := range [][]int{{api.OpOr}, {api.OpAnd, api.OpUnless}, {api.OpEq, api.OpNe, api.OpLt, api.OpLe, api.OpGt, api.OpGe}, {api.OpAdd, api.OpSub}, {api.OpMul, api.OpDiv}} {
		for _, op := range group {
			if Strength(op) != i+1 {
				t.Errorf("operator %d: %d", op, Strength(op))
			}
		}
	}
	if Range(0)+Range(13)+Vector(-1)+Vector(10)+Op(0)+Op(18) != "" || FindRange("sum") != 0 || FindVector("rate") != 0 || FindOp("", -5, 99) != 0 || FindOp("=", 5, 17) != 0 || Strength(4)+Strength(18) != 0 {
		t.Error("names of nothing")
	}
	if !StartsStage("unwrap") || !StartsStage("logfmt") || StartsStage("and") || StartsStage("") {
		t.Error("stages")
	}
}
