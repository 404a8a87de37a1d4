package units

import (
	"sawmill/api"
	"strconv"
	"strings"
)

// maxDecimals is the greatest number of decimals of a decimal number.
const maxDecimals = 9

// Decimal returns n divided by 10^digits as a decimal number.
func Decimal(n, digits int) string {
	digits = Clamp(digits, 0, maxDecimals)
	text := strconv.FormatUint(magnitude(n), 10)
	if lack := digits + 1 - len(text); lack > 0 {
		text = strings.Repeat("0", lack) + text
	}
	if digits > 0 {
		point := len(text) - digits
		text = text[:point] + "." + text[point:]
	}
	if n < 0 {
		return "-" + text
	}
	return text
}

// Parse returns the number whose Decimal is s.
func Parse(s string, digits int) (int, api.Errno) {
	if s == "" {
		return 0, api.ErrShort
	}
	text, negative := strings.CutPrefix(s, "-")
	text, ok := withoutPoint(text, Clamp(digits, 0, maxDecimals))
	if !ok {
		return 0, api.ErrSyntax
	}
	size, err := strconv.ParseUint(text, 10, 64)
	if err != nil { // the text consists of digits, so they are only too many
		return 0, api.ErrRange
	}
	if negative && size == 0 {
		return 0, api.ErrSyntax
	}
	return signed(negative, size)
}

// withoutPoint returns the digits of a decimal number that has no sign, and whether it is one with so many decimals.
func withoutPoint(s string, decimals int) (string, bool) {
	integer, fraction := s, ""
	if decimals > 0 {
		integer, fraction, _ = strings.Cut(s, ".")
	}
	if len(fraction) != decimals {
		return "", false
	}
	if integer == "" || (integer[0] == '0' && len(integer) > 1) {
		return "", false
	}
	return integer + fraction, areDigits(integer) && areDigits(fraction)
}

func areDigits(s string) bool {
	for i := range len(s) {
		if s[i] < '0' || s[i] > '9' {
			return false
		}
	}
	return true
}
