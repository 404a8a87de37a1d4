package wire_test

import (
	"encoding/binary"
	"math"
	"sawmill/wire"
	"strings"
	"testing"
)

// numbers returns numbers with 64 bits: both ends, and around all powers of two, at which encodings become longer.
func numbers() []uint64 {
	l := []uint64{0, math.MaxUint64, math.MaxUint64 - 1}
	for i := range 64 {
		l = append(l, 1<<i-1, 1<<i, 1<<i+1, 0x9e3779b97f4a7c15>>i)
	}
	return l
}

// signed returns numbers at both ends of an int, around all powers of two, and small ones.
func signed() []int {
	l := []int{math.MinInt, math.MinInt + 1, math.MaxInt - 1, math.MaxInt}
	for n := -300; n <= 300; n++ {
		l = append(l, n)
	}
	for i := range 63 {
		l = append(l, 1<<i-1, 1<<i, -1<<i, -1<<i-1)
	}
	return l
}

// texts returns empty, short and long strings, also those whose lengths need one byte more than the shorter ones.
func texts() []string {
	l := []string{"ab", "\x00", "\xff\x80", "Käse\n"}
	for _, n := range []int{0, 1, 2, 126, 127, 128, 129, 300, 16383, 16384, 100000} {
		l = append(l, strings.Repeat("x", n), strings.Repeat("\x80", n))
	}
	return l
}

// lists returns empty, short and long lists.
func lists() [][]int {
	l := [][]int{nil, {}, {0}, {1, -1}, {-3, 300, 0}, {math.MinInt, math.MaxInt}, signed()}
	for _, n := range []int{127, 128, 16384} {
		l = append(l, make([]int, n))
	}
	return l
}

// uvarint is the encoding of n as the library writes it.
func uvarint(n uint64) string { return string(binary.AppendUvarint(nil, n)) }

// varint is the encoding of the zigzag number of n as the library writes it.
func varint(n int) string { return string(binary.AppendVarint(nil, int64(n))) }

func TestUint(t *testing.T) { // P5.1
	for n, want := range map[uint64]string{0: "\x00", 1: "\x01", 127: "\x7f", 128: "\x80\x01", 255: "\xff\x01", 300: "\xac\x02", 16383: "\xff\x7f", 16384: "\x80\x80\x01", 1 << 63: strings.Repeat("\x80", 9) + "\x01", math.MaxUint64: strings.Repeat("\xff", 9) + "\x01"} {
		if s := wire.Uint(n); s != want {
			t.Errorf("Uint(%d) = %q; want %q", n, s, want)
		}
	}
	for _, n := range numbers() {
		if s := wire.Uint(n); s != uvarint(n) {
			t.Errorf("Uint(%d) = %q; want %q", n, s, uvarint(n))
		}
	}
}

func TestInt(t *testing.T) { // P5.2
	for n, want := range map[int]string{0: "\x00", -1: "\x01", 1: "\x02", -2: "\x03", -3: "\x05", 3: "\x06", 63: "\x7e", -64: "\x7f", 64: "\x80\x01", -65: "\x81\x01", math.MaxInt: "\xfe" + strings.Repeat("\xff", 8) + "\x01", math.MinInt: strings.Repeat("\xff", 9) + "\x01"} {
		if s := wire.Int(n); s != want {
			t.Errorf("Int(%d) = %q; want %q", n, s, want)
		}
	}
	for _, n := range signed() {
		if s := wire.Int(n); s != varint(n) {
			t.Errorf("Int(%d) = %q; want %q", n, s, varint(n))
		}
	}
}

func TestText(t *testing.T) { // P5.3
	for s, want := range map[string]string{"": "\x00", "ab": "\x02ab", "\x00": "\x01\x00", "ä": "\x02\xc3\xa4", "\xff\xff": "\x02\xff\xff", strings.Repeat("y", 300): "\xac\x02" + strings.Repeat("y", 300)} {
		if x := wire.Text(s); x != want {
			t.Errorf("Text(%q) = %q; want %q", s, x, want)
		}
	}
	for _, s := range texts() {
		if x, want := wire.Text(s), uvarint(uint64(len(s)))+s; x != want {
			t.Errorf("Text(%.20q) is not the length %d and the string", s, len(s))
		}
	}
}

func TestInts(t *testing.T) { // P5.4
	for _, x := range []struct {
		l    []int
		want string
	}{{nil, "\x00"}, {[]int{}, "\x00"}, {[]int{0}, "\x01\x00"}, {[]int{1, -1}, "\x02\x02\x01"}, {[]int{-1, 1}, "\x02\x01\x02"}, {[]int{150, -3, 150}, "\x03\xac\x02\x05\xac\x02"}} {
		if s := wire.Ints(x.l); s != x.want {
			t.Errorf("Ints(%v) = %q; want %q", x.l, s, x.want)
		}
	}
	for _, l := range lists() {
		want := uvarint(uint64(len(l)))
		for _, n := range l {
			want += varint(n)
		}
		if wire.Ints(l) != want {
			t.Errorf("Ints of %d numbers is not their count and the numbers", len(l))
		}
	}
}
