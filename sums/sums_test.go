package sums_test

import (
	"encoding/binary"
	"fmt"
	"hash/crc32"
	"hash/fnv"
	"math"
	"math/rand"
	"sawmill/api"
	"sawmill/sums"
	"strings"
	"testing"
)

// texts returns empty, short and long strings with bytes of all values.
func texts() []string {
	l := []string{"", "a", "foobar", "123456789", "\x00", "\x00\x00\x00\x00", "\xff\xff\xff\xff", "00000000", "ä€", strings.Repeat("a", 100000), strings.Repeat("\x00", 4097)}
	r := rand.New(rand.NewSource(1))
	for n := range 70 {
		l = append(l, random(r, n))
	}
	for c := range 256 {
		l = append(l, string([]byte{byte(c)}), string([]byte{'x', byte(c), 0}))
	}
	return append(l, random(r, 65537))
}

func random(r *rand.Rand, length int) string {
	b := make([]byte, length)
	r.Read(b)
	return string(b)
}

// numbers returns numbers with 64 bits: each bit alone, with all lower ones, and at both ends.
func numbers() []uint64 {
	l := []uint64{0, 255, 0x0123456789abcdef, 0xfedcba9876543210, math.MaxUint64, math.MaxUint64 - 1, math.MaxInt64}
	for i := range 64 {
		l = append(l, 1<<i, 1<<i-1, uint64(i)*0x9e3779b97f4a7c15)
	}
	return l
}

func fnv1a(s string) uint64 {
	h := fnv.New64a()
	h.Write([]byte(s))
	return h.Sum64()
}

func TestCrc(t *testing.T) { // P4.1
	for s, want := range map[string]uint32{"": 0, "a": 0xe8b7be43, "123456789": 0xcbf43926, "\x00": 0xd202ef8d, "\xff": 0xff000000} {
		if n := sums.Crc(s); n != want {
			t.Errorf("Crc(%q) = %#x; want %#x", s, n, want)
		}
	}
	for _, s := range texts() {
		if n, want := sums.Crc(s), crc32.ChecksumIEEE([]byte(s)); n != want {
			t.Errorf("Crc(%.20q) = %#x; want %#x", s, n, want)
		}
	}
}

func TestHash(t *testing.T) { // P4.2
	for s, want := range map[string]uint64{"": 0xcbf29ce484222325, "a": 0xaf63dc4c8601ec8c, "foobar": 0x85944171f73967e8} {
		if n := sums.Hash(s); n != want {
			t.Errorf("Hash(%q) = %#x; want %#x", s, n, want)
		}
	}
	for _, s := range texts() {
		if n, want := sums.Hash(s), fnv1a(s); n != want {
			t.Errorf("Hash(%.20q) = %#x; want %#x", s, n, want)
		}
	}
}

func TestChain(t *testing.T) { // P4.3
	if n, want := sums.Chain(0x6162636465666768, "ij"), fnv1a("abcdefghij"); n != want {
		t.Errorf("Chain of abcdefgh and ij = %#x; want %#x", n, want)
	}
	if n, want := sums.Chain(1, ""), fnv1a("\x00\x00\x00\x00\x00\x00\x00\x01"); n != want {
		t.Errorf("Chain(1, \"\") = %#x; want %#x", n, want)
	}
	for _, prev := range numbers() {
		head := string(binary.BigEndian.AppendUint64(nil, prev))
		for _, s := range []string{"", "a", "foobar", "\x00", "\xff\x00ä", strings.Repeat("wood", 1000)} {
			if n, want := sums.Chain(prev, s), fnv1a(head+s); n != want {
				t.Errorf("Chain(%#x, %.20q) = %#x; want %#x", prev, s, n, want)
			}
		}
	}
}

func TestHex(t *testing.T) { // P4.4
	for n, want := range map[uint64]string{0: "0000000000000000", 255: "00000000000000ff", 10: "000000000000000a", 0x0123456789abcdef: "0123456789abcdef", 1 << 63: "8000000000000000", math.MaxUint64: "ffffffffffffffff"} {
		if s := sums.Hex(n); s != want {
			t.Errorf("Hex(%d) = %q; want %q", n, s, want)
		}
	}
	for _, n := range numbers() {
		if s, want := sums.Hex(n), fmt.Sprintf("%016x", n); s != want {
			t.Errorf("Hex(%d) = %q; want %q", n, s, want)
		}
	}
}

func TestNumber(t *testing.T) { // P4.5
	for s, want := range map[string]uint64{"0000000000000000": 0, "00000000000000ff": 255, "fedcba9876543210": 0xfedcba9876543210, "8000000000000000": 1 << 63, "ffffffffffffffff": math.MaxUint64} {
		if n, e := sums.Number(s); n != want || e != api.OK {
			t.Errorf("Number(%q) = %#x, %v; want %#x", s, n, e, want)
		}
	}
	for s, want := range map[string]api.Errno{
		"": api.ErrShort, "0": api.ErrShort, "000000000000000": api.ErrShort, "00000000000000g": api.ErrShort, "äääääää": api.ErrShort, "ääääääää": api.ErrSyntax,
		"00000000000000000": api.ErrLong, "gggggggggggggggggg": api.ErrLong, "000000000000000ä": api.ErrLong, strings.Repeat("0", 100000): api.ErrLong, " 0000000000000000": api.ErrLong, "0000000000000000\n": api.ErrLong,
		"00000000000000FF": api.ErrSyntax, "A000000000000000": api.ErrSyntax, "0x00000000000000": api.ErrSyntax, "-000000000000000": api.ErrSyntax, "+000000000000000": api.ErrSyntax, "000000000000000 ": api.ErrSyntax, "00000000_0000000": api.ErrSyntax, "00000000000000ä": api.ErrSyntax, "0000000000000\ufffd": api.ErrSyntax, "000000000000000\xff": api.ErrSyntax, "\xff\xff\xff\xff\xff\xff\xff\xff\xff\xff\xff\xff\xff\xff\xff\xff": api.ErrSyntax,
	} {
		if n, e := sums.Number(s); n != 0 || e != want {
			t.Errorf("Number(%.20q) = %#x, %v; want %v", s, n, e, want)
		}
	}
	for c := range 256 {
		for at := range 16 {
			b := []byte("0123456789abcdef")
			b[at] = byte(c)
			isDigit := strings.IndexByte("0123456789abcdef", byte(c)) >= 0
			if n, e := sums.Number(string(b)); isDigit && e != api.OK || !isDigit && (e != api.ErrSyntax || n != 0) {
				t.Errorf("Number(%q) = %#x, %v", b, n, e)
			}
		}
	}
}

func TestSeal(t *testing.T) { // P4.6
	for s, want := range map[string]string{"": "00000000", "a": "ae8b7be43", "123456789": "123456789cbf43926", "\xff": "\xffff000000"} {
		if x := sums.Seal(s); x != want {
			t.Errorf("Seal(%q) = %q; want %q", s, x, want)
		}
	}
	for _, s := range texts() {
		if x, want := sums.Seal(s), s+fmt.Sprintf("%08x", crc32.ChecksumIEEE([]byte(s))); x != want {
			t.Errorf("Seal(%.20q) is not the string and its checksum", s)
		}
	}
}

func TestOpen(t *testing.T) { // P4.7
	for s, want := range map[string]string{"00000000": "", "ae8b7be43": "a", "123456789cbf43926": "123456789", "\xffff000000": "\xff"} {
		if x, e := sums.Open(s); x != want || e != api.OK {
			t.Errorf("Open(%q) = %q, %v; want %q", s, x, e, want)
		}
	}
	for s, want := range map[string]api.Errno{
		"": api.ErrShort, "0": api.ErrShort, "0000000": api.ErrShort, "8b7be43": api.ErrShort, "ääää"[:7]: api.ErrShort,
		"00000001": api.ErrChecksum, "a00000000": api.ErrChecksum, "aE8B7BE43": api.ErrChecksum, "be8b7be43": api.ErrChecksum, "ae8b7be4": api.ErrChecksum, "e8b7be43": api.ErrChecksum, "ae8b7be43 ": api.ErrChecksum, " ae8b7be43": api.ErrChecksum, "ae8b7be4g": api.ErrChecksum, "aa8b7be43": api.ErrChecksum, "a43beb7e8": api.ErrChecksum, "\x00\x00\x00\x00\x00\x00\x00\x00": api.ErrChecksum, "0000000\xff": api.ErrChecksum,
	} {
		if x, e := sums.Open(s); x != "" || e != want {
			t.Errorf("Open(%q) = %q, %v; want %v", s, x, e, want)
		}
	}
}

func TestInverses(t *testing.T) { // P4.8
	for _, n := range numbers() {
		if m, e := sums.Number(sums.Hex(n)); m != n || e != api.OK {
			t.Errorf("Number(Hex(%#x)) = %#x, %v", n, m, e)
		}
	}
	for _, s := range []string{"0000000000000000", "ffffffffffffffff", "0123456789abcdef", "deadbeef00c0ffee", "8000000000000001"} {
		if n, e := sums.Number(s); sums.Hex(n) != s || e != api.OK {
			t.Errorf("Hex(Number(%q)) = %q, %v", s, sums.Hex(n), e)
		}
	}
	for _, s := range texts() {
		x, e := sums.Open(sums.Seal(s))
		if x != s || e != api.OK {
			t.Errorf("Open(Seal(%.20q)): %v", s, e)
		}
		// A seal is a text, too, and what Open accepts is the seal of its result.
		if y, e := sums.Open(sums.Seal(sums.Seal(s))); e != api.OK || sums.Seal(y) != sums.Seal(sums.Seal(s)) {
			t.Errorf("Seal(Open(Seal(Seal(%.20q)))): %v", s, e)
		}
	}
}

func TestDamage(t *testing.T) { // P4.9
	r := rand.New(rand.NewSource(2))
	for _, s := range []string{"a", "ab", "wood", "B000042U", "\x00\x00\x00\x00\x00", "\xff\xff\xff\xff\xff\xff", random(r, 33), random(r, 300)} {
		sealed := sums.Seal(s)
		for at := range len(s) {
			for size := 1; size <= min(4, len(s)-at); size++ {
				for range 50 {
					b := []byte(sealed)
					copy(b[at:], random(r, size))
					checkDamaged(t, sealed, string(b))
				}
			}
			for bit := range 8 {
				b := []byte(sealed)
				b[at] ^= 1 << bit
				checkDamaged(t, sealed, string(b))
			}
		}
	}
	for _, s := range []string{"", "a", "B000042U", random(r, 100)} {
		sealed := sums.Seal(s)
		for at := len(s); at < len(sealed); at++ {
			for c := range 256 {
				b := []byte(sealed)
				b[at] = byte(c)
				checkDamaged(t, sealed, string(b))
			}
		}
		for range 1000 {
			checkDamaged(t, sealed, s+random(r, 8))
			checkDamaged(t, sealed, s+sums.Hex(r.Uint64())[:8])
		}
		checkDamaged(t, sealed, s+strings.ToUpper(sealed[len(s):]))
	}
}

func checkDamaged(t *testing.T, sealed, damaged string) {
	t.Helper()
	if damaged == sealed {
		return
	}
	if x, e := sums.Open(damaged); x != "" || e != api.ErrChecksum {
		t.Errorf("Open(%q) = %q, %v, but %q was sealed", damaged, x, e, sealed)
	}
}

func TestExclusiveOr(t *testing.T) { // P4.10
	r := rand.New(rand.NewSource(3))
	for length := range 200 {
		a, b, c := random(r, length), random(r, length), random(r, length)
		mixed := make([]byte, length)
		for i := range mixed {
			mixed[i] = a[i] ^ b[i] ^ c[i]
		}
		if n, want := sums.Crc(string(mixed)), sums.Crc(a)^sums.Crc(b)^sums.Crc(c); n != want {
			t.Errorf("length %d: %#x; want %#x", length, n, want)
		}
	}
}
