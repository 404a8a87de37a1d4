// Package ident is layer 2, names, and codes of items with a check letter: see shared/doc/02-ident.md.
package ident

import "sawmill/api"

const (
	maxItem = 999999 // the greatest number of an item
	length  = 8      // bytes of a code
	letters = 23     // check letters; a prime, so that a replaced digit and exchanged ones always change the letter
)

// field is what a code has in some consecutive bytes: a condition for each of them, and the error if it does not hold.
type field struct {
	size int
	fits func(c byte) bool
	err  api.Errno
}

// fields returns the fields of a code, in their order; check is the check letter of the bytes before it.
func fields(check byte) []field {
	return []field{
		{size: 1, fits: isCapital, err: api.ErrKind},
		{size: length - 2, fits: isDigit, err: api.ErrSyntax},
		{size: 1, fits: func(c byte) bool { return c == check }, err: api.ErrChecksum},
	}
}

// IsName reports whether s is a name.
func IsName(s string) bool {
	if len(s) < 1 || len(s) > api.MaxName || !isSmall(s[0]) {
		return false
	}
	for i := range len(s) {
		if !isSmall(s[i]) && !isDigit(s[i]) && s[i] != '_' {
			return false
		}
	}
	return true
}

func isSmall(c byte) bool { return c >= 'a' && c <= 'z' }

func isCapital(c byte) bool { return c >= 'A' && c <= 'Z' }

func isDigit(c byte) bool { return c >= '0' && c <= '9' }

// Letter returns the check letter of a string.
func Letter(s string) byte {
	m := 0
	for i := range len(s) {
		// The sum for a very long string would not fit into an int, so it is kept modulo letters.
		m = (m + (i+1)*int(s[i])) % letters
	}
	return 'A' + byte(m)
}

// Code returns the code of the item n of a kind.
func Code(kind byte, n int) (string, api.Errno) {
	if !isCapital(kind) {
		return "", api.ErrKind
	}
	if n < 0 || n > maxItem {
		return "", api.ErrRange
	}
	code := make([]byte, length)
	code[0] = kind
	for i := length - 2; i > 0; i-- {
		code[i] = '0' + byte(n%10)
		n /= 10
	}
	code[length-1] = Letter(string(code[:length-1]))
	return string(code), api.OK
}

// Split returns the kind and the number of a code.
func Split(s string) (byte, int, api.Errno) {
	if len(s) != length {
		return 0, 0, api.ErrShort
	}
	at := 0
	for _, f := range fields(Letter(s[:length-1])) {
		for range f.size {
			if !f.fits(s[at]) {
				return 0, 0, f.err
			}
			at++
		}
	}
	return s[0], number(s[1 : length-1]), api.OK
}

// number returns the number that decimal digits, also with leading zeros, stand for.
func number(digits string) int {
	n := 0
	for i := range len(digits) {
		n = 10*n + int(digits[i]-'0')
	}
	return n
}

// Is reports whether s is a code of the kind.
func Is(s string, kind byte) bool {
	k, _, e := Split(s)
	return e == api.OK && k == kind
}

// Next returns the code of the next item of the same kind.
func Next(s string) (string, api.Errno) {
	kind, n, e := Split(s)
	if e != api.OK {
		return "", e
	}
	return Code(kind, n+1)
}
