package wire_test

import (
	"encoding/binary"
	"math"
	"math/rand"
	"runtime"
	"sawmill/api"
	"sawmill/wire"
	"slices"
	"strings"
	"testing"
)

// check compares a reader's error, and how many bytes it has left, with what is wanted, and its end with both.
func check(t *testing.T, what string, r *wire.Reader, e api.Errno, left int) {
	t.Helper()
	if r.Err() != e || r.Left() != left {
		t.Errorf("%s: %v, %d bytes left; want %v and %d", what, r.Err(), r.Left(), e, left)
	}
	end := e
	if e == api.OK && left > 0 {
		end = api.ErrLong
	}
	if r.End() != end {
		t.Errorf("%s: the end is %v; want %v", what, r.End(), end)
	}
}

// samples returns all strings of at most so many of the given bytes.
func samples(bytes string, most int) []string {
	all := []string{""}
	for from := 0; most > 0; most-- {
		until := len(all)
		for _, s := range all[from:until] {
			for i := range len(bytes) {
				all = append(all, s+bytes[i:i+1])
			}
		}
		from = until
	}
	return all
}

// wanted is what a reader of s has to find there, told with the library's reader.
func wanted(s string) (n uint64, size int, e api.Errno) {
	if len(s) >= 10 && s[9] > 1 && strings.IndexFunc(s[:9], func(c rune) bool { return c < 128 }) < 0 {
		return 0, 0, api.ErrSyntax
	}
	n, size = binary.Uvarint([]byte(s))
	switch {
	case size == 0:
		return 0, 0, api.ErrShort
	case size < 0 || uvarint(n) != s[:size]:
		return 0, 0, api.ErrSyntax
	}
	return n, size, api.OK
}

func TestNewReader(t *testing.T) { // P5.5
	for _, s := range append(texts(), "", "\x80", "\x80\x00") {
		r := wire.NewReader(s)
		if r == nil {
			t.Fatal("no reader")
		}
		check(t, "a new reader", r, api.OK, len(s))
	}
}

func TestReadUint(t *testing.T) { // P5.6
	nine, zeros := strings.Repeat("\xff", 9), strings.Repeat("\x80", 9)
	for _, x := range []struct {
		s    string
		n    uint64
		e    api.Errno
		left int
	}{
		{"\x00", 0, api.OK, 0}, {"\x7f", 127, api.OK, 0}, {"\xac\x02", 300, api.OK, 0}, {"\xac\x02\x05", 300, api.OK, 1}, {"\x05\x80\x00", 5, api.OK, 2}, {"\x00\x00", 0, api.OK, 1},
		{nine + "\x01", math.MaxUint64, api.OK, 0}, {nine + "\x01\xff", math.MaxUint64, api.OK, 1}, {zeros + "\x01", 1 << 63, api.OK, 0}, {nine[1:] + "\x7f", math.MaxInt64, api.OK, 0},
		{"", 0, api.ErrShort, 0}, {"\x80", 0, api.ErrShort, 1}, {"\xff\xff\xff", 0, api.ErrShort, 3}, {nine, 0, api.ErrShort, 9}, {zeros, 0, api.ErrShort, 9},
		{"\x80\x00", 0, api.ErrSyntax, 2}, {"\x80\x00\x01", 0, api.ErrSyntax, 3}, {"\xff\x80\x00", 0, api.ErrSyntax, 3}, {zeros + "\x00", 0, api.ErrSyntax, 10}, {nine + "\x00", 0, api.ErrSyntax, 10},
		{nine + "\x02", 0, api.ErrSyntax, 10}, {nine + "\x7f", 0, api.ErrSyntax, 10}, {nine + "\x80", 0, api.ErrSyntax, 10}, {zeros + "\x80", 0, api.ErrSyntax, 10}, {nine + "\x81", 0, api.ErrSyntax, 10}, {nine + "\xff\x01", 0, api.ErrSyntax, 11}, {zeros + "\x80\x00", 0, api.ErrSyntax, 11}, {strings.Repeat("\xff", 100000), 0, api.ErrSyntax, 100000},
	} {
		r := wire.NewReader(x.s)
		if n := r.Uint(); n != x.n {
			t.Errorf("Uint on %.20q = %d; want %d", x.s, n, x.n)
		}
		check(t, "Uint", r, x.e, x.left)
	}
}

func TestReadUintOfAnyBytes(t *testing.T) { // P5.6, P5.13
	all := samples("\x00\x01\x02\x7f\x80\x81\xff", 4)
	for _, head := range []string{"\xff\xff\xff\xff\xff\xff\xff", "\x80\x80\x80\x80\x80\x80\x80", "\x80\xff\x80\xff\x80\xff\x80"} {
		for _, tail := range samples("\x00\x01\x02\x7f\x80\x81\xff", 4) {
			all = append(all, head+tail)
		}
	}
	for _, s := range all {
		n, size, e := wanted(s)
		r := wire.NewReader(s)
		if got := r.Uint(); got != n {
			t.Errorf("Uint on %q = %d; want %d", s, got, n)
		}
		check(t, "Uint", r, e, len(s)-size)
		if e == api.OK && s[:size] != wire.Uint(n) {
			t.Errorf("Uint on %q consumed other bytes than Uint(%d)", s, n)
		}
	}
}

func TestReadInt(t *testing.T) { // P5.7
	lowest, highest := strings.Repeat("\xff", 9)+"\x01", "\xfe"+strings.Repeat("\xff", 8)+"\x01"
	for _, x := range []struct {
		s         string
		low, high int
		n         int
		e         api.Errno
		left      int
	}{
		{"\x05", -10, 10, -3, api.OK, 0}, {"\x05", -3, -3, -3, api.OK, 0}, {"\x06", 3, 3, 3, api.OK, 0}, {"\x00", 0, 0, 0, api.OK, 0}, {"\x01\x00", -1, 0, -1, api.OK, 1}, {"\x03", math.MinInt, math.MaxInt, -2, api.OK, 0},
		{lowest, math.MinInt, math.MaxInt, math.MinInt, api.OK, 0}, {lowest, math.MinInt, math.MinInt, math.MinInt, api.OK, 0}, {highest, math.MaxInt, math.MaxInt, math.MaxInt, api.OK, 0}, {highest, math.MinInt, math.MaxInt, math.MaxInt, api.OK, 0},
		{"\x05", 0, 10, 0, api.ErrRange, 1}, {"\x05", -2, 10, 0, api.ErrRange, 1}, {"\x05", -10, -4, 0, api.ErrRange, 1}, {"\x06", 4, 10, 0, api.ErrRange, 1}, {"\x06\x00", -10, 2, 0, api.ErrRange, 2}, {"\x00", 1, 1, 0, api.ErrRange, 1}, {"\x00", 1, -1, 0, api.ErrRange, 1}, {"\x05", 10, -10, 0, api.ErrRange, 1},
		{lowest, math.MinInt + 1, math.MaxInt, 0, api.ErrRange, 10}, {highest, math.MinInt, math.MaxInt - 1, 0, api.ErrRange, 10}, {"\x00", math.MaxInt, math.MinInt, 0, api.ErrRange, 1}, {"\xac\x02", 0, 149, 0, api.ErrRange, 2},
		{"", 1, 0, 0, api.ErrShort, 0}, {"\x85", 0, 10, 0, api.ErrShort, 1}, {"\x85\x00", 0, 10, 0, api.ErrSyntax, 2}, {lowest[:9] + "\x02", 1, 0, 0, api.ErrSyntax, 10}, {lowest[:9] + "\x81", 0, 0, 0, api.ErrSyntax, 10},
	} {
		r := wire.NewReader(x.s)
		if n := r.Int(x.low, x.high); n != x.n {
			t.Errorf("Int(%d, %d) on %q = %d; want %d", x.low, x.high, x.s, n, x.n)
		}
		check(t, "Int", r, x.e, x.left)
	}
	for _, n := range signed() {
		r := wire.NewReader(varint(n))
		if m := r.Int(n, n); m != n {
			t.Errorf("Int on the encoding of %d = %d", n, m)
		}
		check(t, "Int", r, api.OK, 0)
	}
}

func TestReadText(t *testing.T) { // P5.8
	greatest, half := strings.Repeat("\xff", 9)+"\x01", strings.Repeat("\xff", 8)+"\x7f" // 2^64 - 1 and 2^63 - 1
	for _, x := range []struct {
		s    string
		most int
		text string
		e    api.Errno
		left int
	}{
		{"\x02ab", 2, "ab", api.OK, 0}, {"\x02abc", 5, "ab", api.OK, 1}, {"\x00", 0, "", api.OK, 0}, {"\x00x", 7, "", api.OK, 1}, {"\x03\x00\x80\xff", 3, "\x00\x80\xff", api.OK, 0}, {"\x01a", math.MaxInt, "a", api.OK, 0},
		{"\x02ab", 1, "", api.ErrLong, 3}, {"\x02ab", 0, "", api.ErrLong, 3}, {"\x00", -1, "", api.ErrLong, 1}, {"\x02ab", -1, "", api.ErrLong, 3}, {"\x00", math.MinInt, "", api.ErrLong, 1}, {"\x02ab", math.MinInt, "", api.ErrLong, 3},
		{"\x03ab", 5, "", api.ErrShort, 3}, {"\x03ab", 3, "", api.ErrShort, 3}, {"\x03ab", 2, "", api.ErrLong, 3}, {"\x01", 1, "", api.ErrShort, 1}, {"\x80\x01x", 128, "", api.ErrShort, 3},
		{greatest + "a", math.MaxInt, "", api.ErrLong, 11}, {greatest, -1, "", api.ErrLong, 10}, {half + "a", math.MaxInt, "", api.ErrShort, 10}, {half, math.MaxInt - 1, "", api.ErrLong, 9}, {"\x80\x80\x80\x80\x80\x80\x80\x80\x80\x01", math.MaxInt, "", api.ErrLong, 10},
		{"", 5, "", api.ErrShort, 0}, {"", -1, "", api.ErrShort, 0}, {"\x82", 5, "", api.ErrShort, 1}, {"\x82\x00ab", -1, "", api.ErrSyntax, 4}, {greatest[:9] + "\x02", -1, "", api.ErrSyntax, 10},
	} {
		r := wire.NewReader(x.s)
		if s := r.Text(x.most); s != x.text {
			t.Errorf("Text(%d) on %q = %q; want %q", x.most, x.s, s, x.text)
		}
		check(t, "Text", r, x.e, x.left)
	}
}

func TestReadInts(t *testing.T) { // P5.9
	greatest := strings.Repeat("\xff", 9) + "\x01" // 2^64 - 1
	for _, x := range []struct {
		s               string
		most, low, high int
		l               []int
		e               api.Errno
		left            int
	}{
		{"\x02\x02\x01", 2, -1, 1, []int{1, -1}, api.OK, 0}, {"\x02\x02\x01x", 5, -1, 1, []int{1, -1}, api.OK, 1}, {"\x00", 0, 0, 0, nil, api.OK, 0}, {"\x00", 0, 1, 0, nil, api.OK, 0}, {"\x00\x05", 9, 0, 9, nil, api.OK, 1}, {"\x01\xac\x02", math.MaxInt, 150, 150, []int{150}, api.OK, 0}, {"\x01" + greatest, 1, math.MinInt, math.MaxInt, []int{math.MinInt}, api.OK, 0},
		{"\x02\x02\x01", 1, -1, 1, nil, api.ErrLong, 3}, {"\x00", -1, 0, 0, nil, api.ErrLong, 1}, {"\x00", math.MinInt, 0, 0, nil, api.ErrLong, 1}, {"\x01\x02", -1, 0, 9, nil, api.ErrLong, 2}, {greatest, math.MaxInt, 0, 0, nil, api.ErrLong, 10}, {"\x03\x80\x00", 2, 0, 0, nil, api.ErrLong, 3},
		{"\x02\x02", 2, -1, 1, nil, api.ErrShort, 2}, {"\x02\x02\x80", 2, -1, 1, nil, api.ErrShort, 3}, {"\x01", 1, -1, 1, nil, api.ErrShort, 1}, {"\xff\xff\xff\xff\xff\xff\xff\xff\x7f\x02", math.MaxInt, -1, 1, nil, api.ErrShort, 10},
		{"\x02\x02\x80\x00", 2, -5, 5, nil, api.ErrSyntax, 4}, {"\x01" + greatest[:9] + "\x02", 1, 0, 0, nil, api.ErrSyntax, 11},
		{"\x02\x02\x01", 2, 0, 1, nil, api.ErrRange, 3}, {"\x02\x02\x01", 2, -1, 0, nil, api.ErrRange, 3}, {"\x01\x00", 1, 1, -1, nil, api.ErrRange, 2}, {"\x03\x04\x80\x00", 3, 0, 1, nil, api.ErrRange, 4}, {"\x03\x02\x04", 3, 0, 1, nil, api.ErrRange, 3}, {"\x03\x02\x80\x00\x04", 3, 0, 1, nil, api.ErrSyntax, 5},
		{"", -1, 1, 0, nil, api.ErrShort, 0}, {"\x81", -1, 0, 0, nil, api.ErrShort, 1}, {"\x81\x00", -1, 0, 0, nil, api.ErrSyntax, 2},
	} {
		r := wire.NewReader(x.s)
		if l := r.Ints(x.most, x.low, x.high); !slices.Equal(l, x.l) {
			t.Errorf("Ints(%d, %d, %d) on %q = %v; want %v", x.most, x.low, x.high, x.s, l, x.l)
		}
		check(t, "Ints", r, x.e, x.left)
	}
}

func TestReadIntsMemory(t *testing.T) { // P5.9
	s := wire.Uint(1<<30) + "\x02\x04"
	var before, after runtime.MemStats
	runtime.ReadMemStats(&before)
	r := wire.NewReader(s)
	r.Ints(math.MaxInt, 0, 9)
	runtime.ReadMemStats(&after)
	check(t, "Ints", r, api.ErrShort, len(s))
	if used := after.TotalAlloc - before.TotalAlloc; used > 1<<20 {
		t.Errorf("%d bytes of memory for two numbers", used)
	}
}

func TestResultsAreNew(t *testing.T) { // R3
	s := wire.Ints([]int{1, 2}) + wire.Ints([]int{3, 4})
	r := wire.NewReader(s)
	first := r.Ints(2, 0, 9)
	first[0], first[1] = 7, 7
	first = append(first, 7)
	if second := r.Ints(2, 0, 9); !slices.Equal(second, []int{3, 4}) {
		t.Error("the second list has changed:", second)
	}
	if again := wire.NewReader(s).Ints(2, 0, 9); !slices.Equal(again, []int{1, 2}) {
		t.Error("the string has changed:", again)
	}
	l := []int{1, -1}
	wire.Ints(l)
	if !slices.Equal(l, []int{1, -1}) {
		t.Error("the argument has changed:", l)
	}
}

func TestEnd(t *testing.T) { // P5.10
	r := wire.NewReader("\x01\x02ab")
	for range 3 {
		if r.Left() != 4 || r.Err() != api.OK || r.End() != api.ErrLong {
			t.Error("at the beginning:", r.Left(), r.Err(), r.End())
		}
	}
	if n := r.Uint(); n != 1 || r.Left() != 3 || r.Err() != api.OK || r.End() != api.ErrLong {
		t.Error("after a number:", n, r.Left(), r.Err(), r.End())
	}
	if s := r.Text(2); s != "ab" || r.Left() != 0 || r.Err() != api.OK || r.End() != api.OK {
		t.Error("at the end:", s, r.Left(), r.Err(), r.End())
	}
	if n := r.Uint(); n != 0 || r.Left() != 0 || r.Err() != api.ErrShort || r.End() != api.ErrShort {
		t.Error("behind the end:", n, r.Left(), r.Err(), r.End())
	}
	if one := wire.NewReader("\x01"); one.Left() != 1 || one.Err() != api.OK || one.End() != api.ErrLong {
		t.Error("a single byte:", one.Left(), one.Err(), one.End())
	}
	empty := wire.NewReader("")
	if empty.Left() != 0 || empty.Err() != api.OK || empty.End() != api.OK {
		t.Error("an empty string:", empty.Left(), empty.Err(), empty.End())
	}
}

func TestAfterAnError(t *testing.T) { // P5.6 to P5.10
	const rest = "\x00\x02\x02\x01" // can be read in every way
	for _, x := range []struct {
		s    string
		fail func(r *wire.Reader)
		e    api.Errno
	}{
		{"\x80\x00" + rest, func(r *wire.Reader) { r.Uint() }, api.ErrSyntax},
		{rest, func(r *wire.Reader) { r.Int(1, 9) }, api.ErrRange},
		{rest, func(r *wire.Reader) { r.Text(-1) }, api.ErrLong},
		{rest, func(r *wire.Reader) { r.Ints(-1, 0, 9) }, api.ErrLong},
		{"\x09" + rest, func(r *wire.Reader) { r.Text(9) }, api.ErrShort},
		{"\x09" + rest, func(r *wire.Reader) { r.Ints(9, -9, 9) }, api.ErrShort},
	} {
		r := wire.NewReader(x.s)
		x.fail(r)
		check(t, "the first error", r, x.e, len(x.s))
		for range 2 {
			if n := r.Uint(); n != 0 {
				t.Error("Uint after an error:", n)
			}
			if n := r.Int(math.MinInt, math.MaxInt); n != 0 {
				t.Error("Int after an error:", n)
			}
			if s := r.Text(9); s != "" {
				t.Error("Text after an error:", s)
			}
			if l := r.Ints(9, -9, 9); len(l) != 0 {
				t.Error("Ints after an error:", l)
			}
			r.Int(9, -9)
			r.Text(-1)
			r.Ints(-1, 9, -9)
			check(t, "after the first error", r, x.e, len(x.s))
			if r.End() != x.e {
				t.Errorf("End after %v is %v", x.e, r.End())
			}
		}
	}
	// A field that fails late leaves the position before its beginning, not before the part that cannot be read.
	r := wire.NewReader("\x07\x02\x02\x80\x00")
	if n := r.Uint(); n != 7 {
		t.Error("Uint:", n)
	}
	r.Ints(2, 0, 9)
	check(t, "a list that fails late", r, api.ErrSyntax, 4)
}

func TestNilReader(t *testing.T) { // P5.11
	var r *wire.Reader
	for range 2 {
		if n := r.Uint(); n != 0 {
			t.Error("Uint:", n)
		}
		if n := r.Int(-5, 5); n != 0 {
			t.Error("Int:", n)
		}
		if n := r.Int(5, 9); n != 0 {
			t.Error("Int:", n)
		}
		if s := r.Text(5); s != "" {
			t.Error("Text:", s)
		}
		if l := r.Ints(5, -5, 5); len(l) != 0 {
			t.Error("Ints:", l)
		}
		if r.Left() != 0 || r.Err() != api.ErrNil || r.End() != api.ErrNil {
			t.Error(r.Left(), r.Err(), r.End())
		}
	}
}

// field is an encoding with the reading of it, which reports whether it gave the value back.
type field struct {
	code string
	read func(r *wire.Reader) bool
}

func fields() []field {
	var l []field
	for _, n := range numbers() {
		l = append(l, field{wire.Uint(n), func(r *wire.Reader) bool { return r.Uint() == n }})
	}
	for _, n := range signed() {
		l = append(l, field{wire.Int(n), func(r *wire.Reader) bool { return r.Int(n, n) == n }}, field{wire.Int(n), func(r *wire.Reader) bool { return r.Int(math.MinInt, math.MaxInt) == n }})
	}
	for _, s := range texts() {
		l = append(l, field{wire.Text(s), func(r *wire.Reader) bool { return r.Text(len(s)) == s }}, field{wire.Text(s), func(r *wire.Reader) bool { return r.Text(math.MaxInt) == s }})
	}
	for _, x := range lists() {
		low, high := 0, 0
		if len(x) > 0 {
			low, high = slices.Min(x), slices.Max(x)
		}
		l = append(l, field{wire.Ints(x), func(r *wire.Reader) bool { return slices.Equal(r.Ints(len(x), low, high), x) }}, field{wire.Ints(x), func(r *wire.Reader) bool { return slices.Equal(r.Ints(math.MaxInt, math.MinInt, math.MaxInt), x) }})
	}
	return l
}

func TestFieldsComeBack(t *testing.T) { // P5.12
	all := fields()
	random := rand.New(rand.NewSource(1))
	for range 200 {
		var text strings.Builder
		var chosen []field
		for range random.Intn(12) {
			f := all[random.Intn(len(all))]
			chosen = append(chosen, f)
			text.WriteString(f.code)
		}
		r := wire.NewReader(text.String())
		left := text.Len()
		for _, f := range chosen {
			if !f.read(r) {
				t.Errorf("%.40q does not come back: %v", f.code, r.Err())
			}
			left -= len(f.code)
			check(t, "a field", r, api.OK, left)
		}
		if e := r.End(); e != api.OK {
			t.Error("End:", e)
		}
	}
	for _, f := range all {
		if r := wire.NewReader(f.code); !f.read(r) || r.End() != api.OK {
			t.Errorf("%.40q does not come back: %v", f.code, r.End())
		}
	}
}

func TestOneForm(t *testing.T) { // P5.13
	const wide = math.MaxInt
	for _, s := range samples("\x00\x01\x02\x03\x7f\x80\x81\xff", 5) {
		for what, read := range map[string]func(r *wire.Reader) string{
			"Uint": func(r *wire.Reader) string { return wire.Uint(r.Uint()) },
			"Int":  func(r *wire.Reader) string { return wire.Int(r.Int(-wide-1, wide)) },
			"Text": func(r *wire.Reader) string { return wire.Text(r.Text(wide)) },
			"Ints": func(r *wire.Reader) string { return wire.Ints(r.Ints(wide, -wide-1, wide)) },
		} {
			r := wire.NewReader(s)
			code := read(r)
			if consumed := s[:len(s)-r.Left()]; r.Err() == api.OK && consumed != code {
				t.Errorf("%s on %q consumed %q, but the encoding is %q", what, s, consumed, code)
			}
		}
	}
}

func TestCut(t *testing.T) { // P5.14
	for _, f := range fields() {
		for n := range len(f.code) {
			if n == 1000 { // a longer field is cut near its end, too
				checkCut(t, f, len(f.code)-1)
				break
			}
			checkCut(t, f, n)
		}
	}
}

func checkCut(t *testing.T, f field, length int) {
	t.Helper()
	r := wire.NewReader(f.code[:length])
	f.read(r)
	check(t, "a field that is cut", r, api.ErrShort, length)
}
