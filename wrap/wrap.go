// Package wrap is layer 1: whole numbers of 64 bits that wrap. See shared/doc/01-wrap.md.
package wrap

import (
	"strconv"

	"syntagma/api"
)

// Add is the sum, by its lowest 64 bits.
func Add(a, b int64) int64 { return a + b }

// Sub is the difference, by its lowest 64 bits.
func Sub(a, b int64) int64 { return a - b }

// Mul is the product, by its lowest 64 bits.
func Mul(a, b int64) int64 { return a * b }

// Div is the quotient, cut towards 0; that of the least number and -1 wraps to the least number.
func Div(a, b int64) (int64, api.Errno) {
	if b == 0 {
		return 0, api.ErrZero
	}
	return a / b, api.OK
}

// Prim is what the primitive op makes of two numbers; a truth is 1 or 0.
func Prim(op int, a, b int64) (int64, api.Errno) {
	switch op {
	case api.PAdd:
		return Add(a, b), api.OK
	case api.PSub:
		return Sub(a, b), api.OK
	case api.PMul:
		return Mul(a, b), api.OK
	case api.PDiv:
		return Div(a, b)
	case api.PLess:
		return truth(a < b), api.OK
	case api.PSame:
		return truth(a == b), api.OK
	}
	return 0, api.ErrArg
}

func truth(holds bool) int64 {
	if holds {
		return 1
	}
	return 0
}

// Print is the number's digits, with ~ ahead if it is below 0.
func Print(n int64) string {
	s := strconv.FormatInt(n, 10)
	if n < 0 {
		return "~" + s[1:]
	}
	return s
}

// Parse is the number that Print prints as s.
func Parse(s string) (int64, api.Errno) {
	digits, sign := s, int64(1)
	if s != "" && s[0] == '~' {
		digits, sign = s[1:], -1
	}
	n := int64(0)
	for _, c := range digits {
		if c < '0' || c > '9' {
			return 0, api.ErrText
		}
		// Each digit comes with the sign, for the least number has no opposite.
		n = Add(Mul(n, 10), sign*int64(c-'0'))
	}
	// One that wrapped, that has a 0 too many, or that has no digit prints otherwise.
	if Print(n) != s {
		return 0, api.ErrText
	}
	return n, api.OK
}
