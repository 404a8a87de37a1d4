// Package units is layer 1, rounding, fixed decimals and bounded arithmetic: see shared/doc/01-units.md.
package units

import (
	"math"
	"math/bits"
	"sawmill/api"
)

// whole is the part, in ten-thousandths, that Toward counts as the whole difference.
const whole = 10000

// rounding chooses between the integers on both sides of a quotient. The rest that up is asked about is what the lower one leaves, so it has the sign of the divisor.
type rounding struct {
	up func(rest, divisor int) bool
}

// Floor returns a / b rounded down, and true; 0 and false if b is 0 or the quotient does not fit into an int.
func Floor(a, b int) (int, bool) {
	return rounding{up: never}.quotient(a, b)
}

// Nearest returns a / b rounded to the nearest integer, halves up, and true; 0 and false as Floor does.
func Nearest(a, b int) (int, bool) {
	return rounding{up: fromHalf}.quotient(a, b)
}

func (r rounding) quotient(a, b int) (int, bool) {
	// -2^63 / -1 is the only quotient of two ints that is too great for an int.
	if b == 0 || (a == math.MinInt && b == -1) {
		return 0, false
	}
	q, rest := a/b, a%b
	if rest != 0 && (rest < 0) != (b < 0) {
		q--
		rest += b
	}
	if r.up(rest, b) {
		q++
	}
	return q, true
}

func never(rest, divisor int) bool { return false }

// fromHalf compares the rest with what it lacks, because twice the rest may not fit into an int.
func fromHalf(rest, divisor int) bool {
	lack := divisor - rest
	if divisor < 0 {
		return rest <= lack
	}
	return rest >= lack
}

// MulDiv returns a * b / c rounded down, where the product is exact.
func MulDiv(a, b, c int) (int, api.Errno) {
	if c <= 0 {
		return 0, api.ErrRange
	}
	high, low := bits.Mul64(magnitude(a), magnitude(b))
	if high >= uint64(c) { // the quotient has more than 64 bits, which Div64 does not permit
		return 0, api.ErrRange
	}
	q, rest := bits.Div64(high, low, uint64(c))
	negative := (a < 0) != (b < 0)
	if negative && rest > 0 {
		if q == math.MaxUint64 {
			return 0, api.ErrRange
		}
		q++ // the lower neighbor of a negative quotient has the greater magnitude
	}
	return signed(negative, q)
}

// magnitude returns n without its sign, also for -2^63.
func magnitude(n int) uint64 {
	if n < 0 {
		return -uint64(n)
	}
	return uint64(n)
}

// signed returns the int with a sign and a magnitude, or ErrRange if there is none.
func signed(negative bool, size uint64) (int, api.Errno) {
	switch {
	case negative && size <= 1<<63:
		return int(-size), api.OK
	case !negative && size <= math.MaxInt:
		return int(size), api.OK
	}
	return 0, api.ErrRange
}

// Clamp returns the number from low to high that is nearest to n, and low if low is above high.
func Clamp(n, low, high int) int {
	if low > high || n < low {
		return low
	}
	if n > high {
		return high
	}
	return n
}

// Toward moves a toward b by k ten-thousandths of the difference, by at least 1 if k is above 0.
func Toward(a, b, k int) int {
	k = Clamp(k, 0, whole)
	if k == 0 || a == b {
		return a
	}
	// The difference of two ints may need 64 bits without a sign: it is exact modulo 2^64, and so is the step from a.
	from, to := uint64(a), uint64(b)
	if b < a {
		return int(from - step(from-to, k))
	}
	return int(from + step(to-from, k))
}

// step returns k ten-thousandths of a distance above 0, rounded down, but at least 1; k is from 1 to whole.
func step(distance uint64, k int) uint64 {
	high, low := bits.Mul64(distance, uint64(k))
	d, _ := bits.Div64(high, low, whole)
	if d == 0 {
		return 1
	}
	return d
}

// Root returns the integer square root of n, and 0 for n below 0.
func Root(n int) int {
	if n < 0 {
		return 0
	}
	root := uint64(0)
	for bit := uint64(1) << 31; bit > 0; bit >>= 1 {
		if next := root + bit; next*next <= uint64(n) {
			root = next
		}
	}
	return int(root)
}
