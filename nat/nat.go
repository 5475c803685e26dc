// Package nat implements arithmetic on natural numbers of any size.
package nat

import (
	"math/bits"
	"slices"
	"strconv"
	"strings"

	"driftnet/api"
)

const (
	mostLimbs  = 64
	mostDigits = 600
	limbBits   = 32
	// decimal digits are converted in groups of nine: the most that a limb always holds.
	groupDigits = 9
	groupBase   = 1_000_000_000
)

// Of returns the limbs of n.
func Of(n uint64) []uint32 {
	return trim([]uint32{uint32(n), uint32(n >> limbBits)})
}

// Small returns the number that a stands for, if a is valid and has at most two limbs.
func Small(a []uint32) (uint64, bool) {
	if Check(a) != api.OK || len(a) > 2 {
		return 0, false
	}
	return word(a), true
}

// Check returns ErrLimit for too many limbs, and ErrArg if the last limb is 0.
func Check(a []uint32) api.Errno {
	if len(a) > mostLimbs {
		return api.ErrLimit
	}
	if len(a) > 0 && a[len(a)-1] == 0 {
		return api.ErrArg
	}
	return api.OK
}

// Cmp returns -1, 0 or 1 if a is less than, equal to, or greater than b.
func Cmp(a, b []uint32) int {
	if checkBoth(a, b) != api.OK {
		return 0
	}
	return compare(a, b)
}

// Add returns the sum of a and b.
func Add(a, b []uint32) ([]uint32, api.Errno) {
	if e := checkBoth(a, b); e != api.OK {
		return nil, e
	}
	sum := make([]uint32, max(len(a), len(b))+1)
	var carry uint32
	for i := range len(sum) {
		sum[i], carry = bits.Add32(limb(a, i), limb(b, i), carry)
	}
	return trim(sum), api.OK
}

// Sub returns a minus b, or ErrRange if a is less.
func Sub(a, b []uint32) ([]uint32, api.Errno) {
	if e := checkBoth(a, b); e != api.OK {
		return nil, e
	}
	if compare(a, b) < 0 {
		return nil, api.ErrRange
	}
	rest := slices.Clone(a)
	subtract(rest, b)
	return trim(rest), api.OK
}

// Mul returns the product of a and b.
func Mul(a, b []uint32) ([]uint32, api.Errno) {
	if e := checkBoth(a, b); e != api.OK {
		return nil, e
	}
	product := make([]uint32, len(a)+len(b))
	for i := range len(a) {
		var carry uint64
		for j := range len(b) {
			// At most (2^32-1)^2 + 2 (2^32-1), which is 2^64-1: it never overflows.
			t := uint64(a[i])*uint64(b[j]) + uint64(product[i+j]) + carry
			product[i+j] = uint32(t)
			carry = t >> limbBits
		}
		product[i+len(b)] = uint32(carry)
	}
	return trim(product), api.OK
}

// Div returns the integer quotient of a and b and the rest, or ErrZero if b is 0.
func Div(a, b []uint32) (quotient, rest []uint32, e api.Errno) {
	if e := checkBoth(a, b); e != api.OK {
		return nil, nil, e
	}
	if len(b) == 0 {
		return nil, nil, api.ErrZero
	}
	quotient, rest = divide(a, b)
	return quotient, rest, api.OK
}

// Gcd returns the greatest common divisor of a and b; it is 0 for 0 and 0.
func Gcd(a, b []uint32) ([]uint32, api.Errno) {
	if e := checkBoth(a, b); e != api.OK {
		return nil, e
	}
	a, b = slices.Clone(a), slices.Clone(b)
	for len(b) > 2 {
		_, rest := divide(a, b)
		a, b = b, rest
	}
	if len(b) == 0 {
		return a, api.OK
	}
	if len(a) > 2 {
		_, rest := divide(a, b)
		a, b = b, rest
	}
	x, y := word(a), word(b)
	for y > 0 {
		x, y = y, x%y
	}
	return Of(x), api.OK
}

// Text returns the decimal digits of a.
func Text(a []uint32) (string, api.Errno) {
	if e := Check(a); e != api.OK {
		return "", e
	}
	if len(a) == 0 {
		return "0", api.OK
	}
	left := slices.Clone(a)
	var groups []string
	for len(left) > 0 {
		var group uint32
		for i := len(left) - 1; i >= 0; i-- {
			left[i], group = bits.Div32(group, left[i], groupBase)
		}
		left = trim(left)
		digits := strconv.Itoa(int(group))
		if len(left) > 0 {
			digits = strings.Repeat("0", groupDigits-len(digits)) + digits
		}
		groups = append(groups, digits)
	}
	slices.Reverse(groups)
	return strings.Join(groups, ""), api.OK
}

// Read returns the limbs of the number whose decimal digits are s.
func Read(s string) ([]uint32, api.Errno) {
	if len(s) > mostDigits {
		return nil, api.ErrLimit
	}
	if !isNumeral(s) {
		return nil, api.ErrSyntax
	}
	var a []uint32
	for _, c := range []byte(s) {
		a = tenfold(a, uint32(c-'0'))
	}
	return a, api.OK
}

// isNumeral reports whether s consists of digits without leading zeros.
func isNumeral(s string) bool {
	for _, c := range []byte(s) {
		if c < '0' || c > '9' {
			return false
		}
	}
	return len(s) == 1 || len(s) > 1 && s[0] != '0'
}

// tenfold returns ten times a, plus digit; it changes a.
func tenfold(a []uint32, digit uint32) []uint32 {
	carry := digit
	for i := range len(a) {
		t := uint64(a[i])*10 + uint64(carry)
		a[i], carry = uint32(t), uint32(t>>limbBits)
	}
	if carry > 0 {
		a = append(a, carry)
	}
	return a
}

func checkBoth(a, b []uint32) api.Errno {
	if e := Check(a); e != api.OK {
		return e
	}
	return Check(b)
}

// trim returns a without the zeros at its end.
func trim(a []uint32) []uint32 {
	for len(a) > 0 && a[len(a)-1] == 0 {
		a = a[:len(a)-1]
	}
	return a
}

// limb returns the limb at index i; limbs that do not exist are 0.
func limb(a []uint32, i int) uint32 {
	if i < len(a) {
		return a[i]
	}
	return 0
}

// word returns the number of at most two limbs.
func word(a []uint32) uint64 {
	return uint64(limb(a, 0)) | uint64(limb(a, 1))<<limbBits
}

func bitLen(a []uint32) int {
	if len(a) == 0 {
		return 0
	}
	return limbBits*(len(a)-1) + bits.Len32(a[len(a)-1])
}

func compare(a, b []uint32) int {
	for i := max(len(a), len(b)) - 1; i >= 0; i-- {
		if x, y := limb(a, i), limb(b, i); x < y {
			return -1
		} else if x > y {
			return 1
		}
	}
	return 0
}

// subtract takes b off a, which is not less.
func subtract(a, b []uint32) {
	var borrow uint32
	for i := range len(a) {
		a[i], borrow = bits.Sub32(a[i], limb(b, i), borrow)
	}
}

// divide shifts the bits of a into the rest, from the highest one on, and takes b off wherever it can.
func divide(a, b []uint32) (quotient, rest []uint32) {
	quotient = make([]uint32, len(a))
	rest = make([]uint32, len(b)+1)
	first := bitLen(b) - 1
	// As many bits as b has but one are less than b: they need no trial.
	fill(rest, a, max(bitLen(a)-first, 0))
trial:
	for i := bitLen(a) - first - 1; i >= 0; i-- {
		shift(rest, a[i/limbBits]>>(i%limbBits)&1)
		for j := len(rest) - 1; j >= 0; j-- {
			if x, y := rest[j], limb(b, j); x < y {
				continue trial
			} else if x > y {
				break
			}
		}
		subtract(rest, b)
		quotient[i/limbBits] |= 1 << (i % limbBits)
	}
	return trim(quotient), trim(rest)
}

// fill sets rest to the bits of a from bit number from on; they fit into it.
func fill(rest, a []uint32, from int) {
	skip, low := from/limbBits, from%limbBits
	for i := range len(rest) {
		pair := uint64(limb(a, i+skip)) | uint64(limb(a, i+skip+1))<<limbBits
		rest[i] = uint32(pair >> low)
	}
}

// shift doubles a and adds the bit.
func shift(a []uint32, bit uint32) {
	for i := range len(a) {
		a[i], bit = a[i]<<1|bit, a[i]>>(limbBits-1)
	}
}
