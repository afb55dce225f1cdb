// Package value is layer 1: 32-bit integer arithmetic. See shared/doc/01-value.md.
package value

import (
	"strconv"
	"strings"

	"modelcheck/api"
)

// names has no name for 0, which is not a function.
var names = [...]string{
	api.FnAdd: "add",
	api.FnSub: "sub",
	api.FnMul: "mul",
	api.FnAnd: "and",
	api.FnOr:  "or",
	api.FnXor: "xor",
	api.FnEq:  "eq",
	api.FnNe:  "ne",
	api.FnLt:  "lt",
	api.FnLe:  "le",
}

// Wrap returns the value that differs from n by a multiple of 2^32.
func Wrap(n int) int {
	return int(int32(n))
}

// Apply returns the result of a binary function.
func Apply(f api.Fn, a int, b int) (int, api.Errno) {
	// The arithmetic of int32 has the wraparound of values.
	x, y := int32(a), int32(b)
	switch f {
	case api.FnAdd:
		return int(x + y), api.OK
	case api.FnSub:
		return int(x - y), api.OK
	case api.FnMul:
		return int(x * y), api.OK
	case api.FnAnd:
		return int(x & y), api.OK
	case api.FnOr:
		return int(x | y), api.OK
	case api.FnXor:
		return int(x ^ y), api.OK
	case api.FnEq:
		return truth(x == y), api.OK
	case api.FnNe:
		return truth(x != y), api.OK
	case api.FnLt:
		return truth(x < y), api.OK
	case api.FnLe:
		return truth(x <= y), api.OK
	}
	return 0, api.ErrOp
}

func truth(holds bool) int {
	if holds {
		return 1
	}
	return 0
}

// Format returns the decimal notation of n.
func Format(n int) string {
	return strconv.Itoa(n)
}

// Parse returns the value with the given decimal notation.
func Parse(s string) (int, api.Errno) {
	if !isNotation(s) {
		return 0, api.ErrNumber
	}
	n, err := strconv.ParseInt(s, 10, 32)
	if err != nil {
		// The text is a number, so it can only be too large or too small.
		return 0, api.ErrRange
	}
	return int(n), api.OK
}

// isNotation tells whether s is the decimal notation of an integer of any size.
func isNotation(s string) bool {
	digits, negative := strings.CutPrefix(s, "-")
	if digits == "" {
		return false
	}
	for i := range len(digits) {
		if digits[i] < '0' || digits[i] > '9' {
			return false
		}
	}
	// A leading zero is allowed only in "0" itself, which has no minus sign.
	return digits[0] != '0' || len(digits) == 1 && !negative
}

// Name returns the name of a function, or "" if it is unknown.
func Name(f api.Fn) string {
	if f < api.FnAdd || f > api.FnLe {
		return ""
	}
	return names[f]
}

// ByName returns the function with the given name.
func ByName(s string) (api.Fn, bool) {
	// The empty text would be found as the missing name of 0.
	if s == "" {
		return 0, false
	}
	for f := range api.Fn(len(names)) {
		if names[f] == s {
			return f, true
		}
	}
	return 0, false
}
