// Package words has the words and signs of the query language, for those who write and read its text.
package words

import (
	"slices"

	"driftnet/api"
)

// rangeNames are in the order of the numbers of the functions, from 1 on.
var rangeNames = []string{
	"count_over_time", "rate", "bytes_over_time", "bytes_rate", "absent_over_time", "sum_over_time",
	"avg_over_time", "min_over_time", "max_over_time", "first_over_time", "last_over_time", "quantile_over_time",
}

// vectorNames are likewise.
var vectorNames = []string{
	"sum", "avg", "min", "max", "count", "topk", "bottomk", "sort", "sort_desc",
}

// ops are likewise.
var ops = []string{
	"=", "!=", "=~", "!~", "==", "!=", "<", "<=", ">", ">=", "+", "-", "*", "/", "and", "or", "unless",
}

// stageWords start a stage, and are not the name in a condition.
var stageWords = []string{
	"logfmt", "json", "pattern", "regexp", "line_format", "label_format", "drop", "unwrap",
}

// Range returns the name of a function over a range; it is empty if there is none.
func Range(fn int) string {
	return at(rangeNames, fn)
}

// FindRange returns the function over a range with that name, or 0.
func FindRange(name string) int {
	return slices.Index(rangeNames, name) + 1
}

// Vector returns the name of a function over series; it is empty if there is none.
func Vector(fn int) string {
	return at(vectorNames, fn)
}

// FindVector returns the function over series with that name, or 0.
func FindVector(name string) int {
	return slices.Index(vectorNames, name) + 1
}

// Op returns the text of an Op; it is empty if there is none. A matcher's Kind has that of the Op with its number.
func Op(op int) string {
	return at(ops, op)
}

// FindOp returns the Op from one to another one that has that text, or 0.
func FindOp(text string, from, to int) int {
	for op := from; op <= to; op++ {
		if Op(op) == text && text != "" {
			return op
		}
	}
	return 0
}

// Strength tells how much an operator between expressions binds; it is 0 for others.
func Strength(op int) int {
	switch {
	case op == api.OpOr:
		return 1
	case op == api.OpAnd || op == api.OpUnless:
		return 2
	case op >= api.OpEq && op <= api.OpGe:
		return 3
	case op == api.OpAdd || op == api.OpSub:
		return 4
	case op == api.OpMul || op == api.OpDiv:
		return 5
	}
	return 0
}

// StartsStage reports whether a word starts a stage.
func StartsStage(word string) bool {
	return slices.Contains(stageWords, word)
}

// at returns the element with that number, from 1 on.
func at(l []string, number int) string {
	if number < 1 || number > len(l) {
		return ""
	}
	return l[number-1]
}
