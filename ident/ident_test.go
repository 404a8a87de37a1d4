package ident_test

import (
	"math"
	"sawmill/api"
	"sawmill/ident"
	"strings"
	"testing"
)

func TestIsName(t *testing.T) { // P2.1
	for _, s := range []string{"a", "z", "spruce_2", "a_", "a9", "a0", "x__", "abcdefghijklmnop", "z_23456789012345"} {
		if !ident.IsName(s) {
			t.Errorf("%q is a name", s)
		}
	}
	for _, s := range []string{"", "_", "_a", "0", "2x", "Spruce", "sPruce", "A", "a-b", "a b", "a.b", " a", "a ", "a\n", "a\x00", "abcdefghijklmnopq", strings.Repeat("a", 10000), "ä", "aä", "a\xff", "a`", "a{", "`", "{", "a/", "a:", "a@", "a["} {
		if ident.IsName(s) {
			t.Errorf("%q is not a name", s)
		}
	}
	for c := range 256 {
		small, digit := c >= 'a' && c <= 'z', c >= '0' && c <= '9'
		if s := string([]byte{byte(c)}); ident.IsName(s) != small {
			t.Errorf("IsName(%q) = %v", s, ident.IsName(s))
		}
		if s := string([]byte{'x', byte(c)}); ident.IsName(s) != (small || digit || c == '_') {
			t.Errorf("IsName(%q) = %v", s, ident.IsName(s))
		}
	}
}

func TestLetter(t *testing.T) { // P2.2
	for s, want := range map[string]byte{"": 'A', "B000042": 'U', "B000043": 'E', "\x00\x00": 'A', "\x01": 'B', "\x16": 'W', "\x17": 'A', "\x00\x01": 'C', "\x01\x01": 'D', "\xff": 'C', "A": 'T'} {
		if c := ident.Letter(s); c != want {
			t.Errorf("Letter(%q) = %q; want %q", s, c, want)
		}
	}
	// The sum of n bytes 1 is n * (n + 1) / 2.
	for _, n := range []int{22, 23, 24, 1000, 100000} {
		if c, want := ident.Letter(strings.Repeat("\x01", n)), byte('A'+n*(n+1)/2%23); c != want {
			t.Errorf("Letter of %d bytes = %q; want %q", n, c, want)
		}
	}
}

func TestCode(t *testing.T) { // P2.3
	for _, x := range []struct {
		kind byte
		n    int
		want string
	}{{'B', 42, "B000042U"}, {'B', 43, "B000043E"}, {'A', 0, "A000000E"}, {'Z', 999999, "Z999999T"}, {'L', 123456, "L123456M"}} {
		if s, e := ident.Code(x.kind, x.n); s != x.want || e != api.OK {
			t.Errorf("Code(%q, %d) = %q, %v; want %q", x.kind, x.n, s, e, x.want)
		}
	}
	for _, x := range []struct {
		kind byte
		n    int
		want api.Errno
	}{
		{'b', 1, api.ErrKind}, {'@', 1, api.ErrKind}, {'[', 1, api.ErrKind}, {'0', 1, api.ErrKind}, {0, 1, api.ErrKind}, {255, 1, api.ErrKind}, {'b', -1, api.ErrKind}, {'b', 1000000, api.ErrKind},
		{'B', -1, api.ErrRange}, {'B', 1000000, api.ErrRange}, {'B', math.MinInt, api.ErrRange}, {'B', math.MaxInt, api.ErrRange}, {'B', 1 << 32, api.ErrRange},
	} {
		if s, e := ident.Code(x.kind, x.n); s != "" || e != x.want {
			t.Errorf("Code(%q, %d) = %q, %v; want %v", x.kind, x.n, s, e, x.want)
		}
	}
	for kind := range 256 {
		if _, e := ident.Code(byte(kind), 7); (e == api.OK) != (kind >= 'A' && kind <= 'Z') {
			t.Errorf("Code of the kind %d: %v", kind, e)
		}
	}
}

func TestSplit(t *testing.T) { // P2.4
	for _, x := range []struct {
		s    string
		kind byte
		n    int
	}{{"B000042U", 'B', 42}, {"B000043E", 'B', 43}, {"A000000E", 'A', 0}, {"Z999999T", 'Z', 999999}, {"L123456M", 'L', 123456}} {
		if kind, n, e := ident.Split(x.s); kind != x.kind || n != x.n || e != api.OK {
			t.Errorf("Split(%q) = %q, %d, %v", x.s, kind, n, e)
		}
	}
	for s, want := range map[string]api.Errno{
		"": api.ErrShort, "B": api.ErrShort, "B42": api.ErrShort, "B000042": api.ErrShort, "B000042UU": api.ErrShort, "b42": api.ErrShort, strings.Repeat("B", 10000): api.ErrShort,
		"b000042U": api.ErrKind, "0000042U": api.ErrKind, "@000042U": api.ErrKind, "[000042U": api.ErrKind, "\xff000042U": api.ErrKind, "b00x042U": api.ErrKind, "b000042V": api.ErrKind, "xxxxxxxx": api.ErrKind,
		"Bx00042U": api.ErrSyntax, "B00004xU": api.ErrSyntax, "B-00042U": api.ErrSyntax, "B00 042U": api.ErrSyntax, "B00004/U": api.ErrSyntax, "B00004:U": api.ErrSyntax, "B000_42U": api.ErrSyntax, "B0000\x00\x00U": api.ErrSyntax, "B0000\xc3\xa4U": api.ErrSyntax,
		"B000042V": api.ErrChecksum, "B000042T": api.ErrChecksum, "B000042u": api.ErrChecksum, "B0000420": api.ErrChecksum, "B000042\x00": api.ErrChecksum, "B000042Z": api.ErrChecksum, "L000042U": api.ErrChecksum,
	} {
		if kind, n, e := ident.Split(s); kind != 0 || n != 0 || e != want {
			t.Errorf("Split(%.20q) = %q, %d, %v; want %v", s, kind, n, e, want)
		}
	}
	// A letter that fits bytes that are no digits does not make a code of them.
	for _, s := range []string{"B00004x", "B 00042", "B/00042", "B:00042"} {
		if kind, n, e := ident.Split(s + letter(s)); kind != 0 || n != 0 || e != api.ErrSyntax {
			t.Errorf("Split of %q and its letter: %q, %d, %v", s, kind, n, e)
		}
	}
}

func TestIs(t *testing.T) { // P2.5
	for _, x := range []struct {
		s    string
		kind byte
		want bool
	}{
		{"B000042U", 'B', true}, {"A000000E", 'A', true}, {"Z999999T", 'Z', true},
		{"B000042U", 'L', false}, {"B000042U", 'b', false}, {"B000042U", 0, false}, {"B000042V", 'B', false}, {"B00004xU", 'B', false}, {"b000042U", 'b', false}, {"B000042", 'B', false}, {"B000042UU", 'B', false}, {"", 'B', false}, {"", 0, false}, {"b000042U", 0, false}, {"B000042V", 0, false},
	} {
		if got := ident.Is(x.s, x.kind); got != x.want {
			t.Errorf("Is(%q, %q) = %v", x.s, x.kind, got)
		}
	}
	for _, first := range []string{"b", "@", "["} { // with a fitting check letter
		s := first + "000042"
		if ident.Is(s+letter(s), first[0]) {
			t.Errorf("%s... is no code", s)
		}
	}
}

func TestNext(t *testing.T) { // P2.6
	for s, want := range map[string]string{"B000042U": "B000043E", "A000000E": code(t, 'A', 1), "L000009" + letter("L000009"): code(t, 'L', 10), "L099999" + letter("L099999"): code(t, 'L', 100000), "Z999998" + letter("Z999998"): "Z999999T"} {
		if got, e := ident.Next(s); got != want || e != api.OK {
			t.Errorf("Next(%q) = %q, %v; want %q", s, got, e, want)
		}
	}
	for s, want := range map[string]api.Errno{"": api.ErrShort, "B42": api.ErrShort, "B000042UU": api.ErrShort, "b000042U": api.ErrKind, "B00004xU": api.ErrSyntax, "B000042V": api.ErrChecksum, "Z999999T": api.ErrRange, code(t, 'B', 999999): api.ErrRange, "Z999999J": api.ErrChecksum} {
		if got, e := ident.Next(s); got != "" || e != want {
			t.Errorf("Next(%q) = %q, %v; want %v", s, got, e, want)
		}
	}
}

func letter(s string) string { return string(rune(ident.Letter(s))) }

func code(t *testing.T, kind byte, n int) string {
	t.Helper()
	s, e := ident.Code(kind, n)
	if e != api.OK {
		t.Fatalf("Code(%q, %d): %v", kind, n, e)
	}
	return s
}

func TestSplitGivesBackWhatCodeWasGiven(t *testing.T) { // P2.7
	for kind := byte('A'); kind <= 'Z'; kind++ {
		for n := 0; n <= 999999; n += 997 {
			k, m, e := ident.Split(code(t, kind, n))
			if k != kind || m != n || e != api.OK {
				t.Fatalf("Split(Code(%q, %d)) = %q, %d, %v", kind, n, k, m, e)
			}
		}
	}
	// Of all last bytes, Split accepts only the one that Code writes.
	for _, body := range []string{"B000042", "A000000", "Z999999", "L120045"} {
		for c := range 256 {
			s := body + string([]byte{byte(c)})
			kind, n, e := ident.Split(s)
			if e == api.OK && code(t, kind, n) != s {
				t.Errorf("Split accepts %q, which is not the code of %q and %d", s, kind, n)
			}
		}
	}
}

func TestChangesAreDetected(t *testing.T) { // P2.8
	for _, kind := range []byte{'A', 'B', 'L', 'Z'} {
		for n := 0; n <= 999999; n += 4999 {
			s := code(t, kind, n)
			for i := range len(s) {
				checkReplaced(t, s, i)
				if i > 0 && s[i-1] != s[i] {
					b := []byte(s)
					b[i-1], b[i] = b[i], b[i-1]
					if ident.Is(string(b), kind) {
						t.Errorf("%q with exchanged bytes is the code %q", s, b)
					}
				}
			}
		}
	}
}

func checkReplaced(t *testing.T, s string, at int) {
	t.Helper()
	for c := range 256 {
		b := []byte(s)
		b[at] = byte(c)
		if byte(c) != s[at] && ident.Is(string(b), s[0]) {
			t.Errorf("%q with another byte is the code %q", s, b)
		}
	}
}

func TestCodesAreOrderedAsTheirNumbers(t *testing.T) { // P2.9
	last := code(t, 'P', 0)
	for n := 1; n <= 999999; n += 1 + n%89 {
		s := code(t, 'P', n)
		if s <= last {
			t.Fatalf("%q does not follow %q", s, last)
		}
		last = s
	}
}
