// Package num is layer 1: arithmetic on numbers of 64 bits that says when a result does not fit. See shared/doc/01-num.md.
package num

import (
	"math"
	"math/bits"
	"strconv"

	"rescind/api"
)

const (
	most  = math.MaxInt64
	least = math.MinInt64
)

// Add is the sum.
func Add(a, b int) (int, api.Errno) {
	if b > 0 && a > most-b || b < 0 && a < least-b {
		return 0, api.ErrOver
	}
	return a + b, api.OK
}

// Sub is the difference.
func Sub(a, b int) (int, api.Errno) {
	if b > 0 && a < least+b || b < 0 && a > most+b {
		return 0, api.ErrOver
	}
	return a - b, api.OK
}

// Mul is the product.
func Mul(a, b int) (int, api.Errno) {
	if tooGreat(a, b) {
		return 0, api.ErrOver
	}
	return a * b, api.OK
}

// tooGreat tells whether a product does not fit. It divides a limit, so as not to multiply; the least number is divided by positive ones only, since divided by -1 it would itself not fit.
func tooGreat(a, b int) bool {
	switch {
	case a > 0 && b > 0:
		return a > most/b
	case a > 0 && b < 0:
		return b < least/a
	case a < 0 && b > 0:
		return a < least/b
	case a < 0 && b < 0:
		return a < most/b
	}
	return false
}

// Quo is the quotient, cut.
func Quo(a, b int) (int, api.Errno) {
	if b == 0 {
		return 0, api.ErrZero
	}
	if a == least && b == -1 {
		return 0, api.ErrOver
	}
	return a / b, api.OK
}

// Rem is what Quo leaves.
func Rem(a, b int) (int, api.Errno) {
	if b == 0 {
		return 0, api.ErrZero
	}
	if b == -1 { // the quotient may not fit, but nothing is ever left
		return 0, api.OK
	}
	return a % b, api.OK
}

// Neg is the number with the other sign.
func Neg(a int) (int, api.Errno) {
	if a == least {
		return 0, api.ErrOver
	}
	return -a, api.OK
}

// Sum is the sum of all. It is kept in two words, so that a part of it may be too great while the whole is not.
func Sum(l ...int) (int, api.Errno) {
	var high, low uint64
	put := func(n int) {
		sign := uint64(n >> 63) // the word above n: all ones below nought, else none
		var carry uint64
		low, carry = bits.Add64(low, uint64(n), 0)
		high, _ = bits.Add64(high, sign, carry)
	}
	for _, n := range l {
		put(n)
	}
	n := int(low)
	if high != uint64(n>>63) {
		return 0, api.ErrOver
	}
	return n, api.OK
}

// Floor is the quotient that is not above, and what is left.
func Floor(a, b int) (int, int, api.Errno) {
	if b < 1 {
		return 0, 0, api.ErrArg
	}
	quotient, rest := a/b, a%b
	if rest < 0 { // the cut went up towards nought
		return quotient - 1, rest + b, api.OK
	}
	return quotient, rest, api.OK
}

// Show is a number's digits.
func Show(n int) string { return strconv.Itoa(n) }

// Read is the number of digits.
func Read(s string) (int, api.Errno) {
	if !isNumber(s) {
		return 0, api.ErrForm
	}
	n, err := strconv.ParseInt(s, 10, 64)
	if err != nil { // the form is held already: only the size is left
		return 0, api.ErrOver
	}
	return int(n), api.OK
}

// isNumber tells whether a text has the one form in which a number, of whatever size, is shown.
func isNumber(s string) bool {
	digits := s
	if s != "" && s[0] == '-' {
		digits = s[1:]
	}
	if digits == "" || !allDigits(digits) {
		return false
	}
	if digits[0] == '0' {
		return s == "0"
	}
	return true
}

func allDigits(s string) bool {
	for i := range len(s) {
		if s[i] < '0' || s[i] > '9' {
			return false
		}
	}
	return true
}
