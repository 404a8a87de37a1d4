package units_test

import (
	"math"
	"sawmill/api"
	"sawmill/units"
	"strings"
	"testing"
)

func TestDecimal(t *testing.T) { // P1.7
	for _, x := range []struct {
		n, digits int
		s         string
	}{
		{-5, 2, "-0.05"}, {1234, 1, "123.4"}, {7, 0, "7"}, {-7, 0, "-7"}, {0, 0, "0"}, {0, 1, "0.0"}, {0, 9, "0.000000000"}, {100, 2, "1.00"}, {99, 2, "0.99"}, {-100, 2, "-1.00"}, {-10, 2, "-0.10"}, {1000, 0, "1000"}, {5, 3, "0.005"}, {1234567890, 9, "1.234567890"},
		{math.MinInt, 9, "-9223372036.854775808"}, {math.MinInt, 0, "-9223372036854775808"}, {math.MaxInt, 9, "9223372036.854775807"}, {math.MaxInt, 0, "9223372036854775807"},
		{5, -1, "5"}, {5, math.MinInt, "5"}, {5, 10, "0.000000005"}, {5, math.MaxInt, "0.000000005"},
	} {
		if s := units.Decimal(x.n, x.digits); s != x.s {
			t.Errorf("Decimal(%d, %d) = %q; want %q", x.n, x.digits, s, x.s)
		}
	}
}

func TestParse(t *testing.T) { // P1.8
	for _, x := range []struct {
		s         string
		digits, n int
	}{
		{"-0.05", 2, -5}, {"123.4", 1, 1234}, {"7", 0, 7}, {"0", 0, 0}, {"0.00", 2, 0}, {"10.00", 2, 1000}, {"-10", 0, -10}, {"0.000000001", 9, 1}, {"1099511627777", 0, api.MaxNumber + 1},
		{"9223372036854775807", 0, math.MaxInt}, {"-9223372036854775808", 0, math.MinInt}, {"9223372036.854775807", 9, math.MaxInt}, {"-9223372036.854775808", 9, math.MinInt},
		{"5", -1, 5}, {"5", math.MinInt, 5}, {"0.000000005", 10, 5}, {"0.000000005", math.MaxInt, 5},
	} {
		if n, e := units.Parse(x.s, x.digits); n != x.n || e != api.OK {
			t.Errorf("Parse(%q, %d) = %d, %v; want %d", x.s, x.digits, n, e, x.n)
		}
	}
}

func TestParseErrors(t *testing.T) { // P1.8
	long := strings.Repeat("9", 5000)
	for _, x := range []struct {
		s      string
		digits int
		e      api.Errno
	}{
		{"", 0, api.ErrShort}, {"", 2, api.ErrShort}, {"", -1, api.ErrShort},
		{"-0", 0, api.ErrSyntax}, {"-0.00", 2, api.ErrSyntax}, {"007", 0, api.ErrSyntax}, {"00", 0, api.ErrSyntax}, {"-07", 0, api.ErrSyntax}, {"00.50", 2, api.ErrSyntax}, {"+1", 0, api.ErrSyntax}, {".5", 1, api.ErrSyntax}, {"-.5", 1, api.ErrSyntax}, {"1.", 0, api.ErrSyntax}, {"1.", 1, api.ErrSyntax},
		{"1.0", 0, api.ErrSyntax}, {"1.0", 2, api.ErrSyntax}, {"1.000", 2, api.ErrSyntax}, {"100", 2, api.ErrSyntax}, {"1", -1, api.OK}, {"1.0", -1, api.ErrSyntax}, {"1", 10, api.ErrSyntax}, {"1.0000000000", 10, api.ErrSyntax},
		{"-", 0, api.ErrSyntax}, {"--1", 0, api.ErrSyntax}, {".", 0, api.ErrSyntax}, {"1.-5", 2, api.ErrSyntax}, {"1.+5", 2, api.ErrSyntax}, {"1..5", 2, api.ErrSyntax}, {"1.2.3", 3, api.ErrSyntax}, {"1,5", 1, api.ErrSyntax}, {" 1", 0, api.ErrSyntax}, {"1 ", 0, api.ErrSyntax}, {"1\n", 0, api.ErrSyntax}, {"1_0", 0, api.ErrSyntax}, {"1e3", 0, api.ErrSyntax}, {"0x1", 0, api.ErrSyntax}, {"1a", 0, api.ErrSyntax}, {"a", 0, api.ErrSyntax}, {"1.5a", 2, api.ErrSyntax}, {"1/", 0, api.ErrSyntax}, {"1:", 0, api.ErrSyntax}, {"\x00", 0, api.ErrSyntax}, {"\xff1", 0, api.ErrSyntax}, {"١", 0, api.ErrSyntax},
		{"9223372036854775808", 0, api.ErrRange}, {"-9223372036854775809", 0, api.ErrRange}, {"18446744073709551615", 0, api.ErrRange}, {"18446744073709551616", 0, api.ErrRange}, {"-18446744073709551616", 0, api.ErrRange}, {"92233720368547758.08", 2, api.ErrRange}, {"-92233720368547758.09", 2, api.ErrRange}, {"10000000000.000000000", 9, api.ErrRange},
		{long, 0, api.ErrRange}, {"-" + long, 0, api.ErrRange}, {long + ".99", 2, api.ErrRange},
		{long + "x", 0, api.ErrSyntax}, {"0" + long, 0, api.ErrSyntax}, {long, 1, api.ErrSyntax}, {long + ".x", 1, api.ErrSyntax}, {strings.Repeat("0", 5000), 0, api.ErrSyntax},
	} {
		n, e := units.Parse(x.s, x.digits)
		if e != x.e || e != api.OK && n != 0 {
			t.Errorf("Parse(%.40q, %d) = %d, %v; want %v", x.s, x.digits, n, e, x.e)
		}
	}
}

func TestTextsComeBack(t *testing.T) { // P1.12
	for _, n := range edges() {
		for digits := -1; digits <= 10; digits++ {
			s := units.Decimal(n, digits)
			if m, e := units.Parse(s, digits); m != n || e != api.OK {
				t.Errorf("Parse(%q, %d) = %d, %v; want %d", s, digits, m, e, n)
			}
		}
	}
	// Every string of at most five of these bytes, whether it is a number or not.
	for _, s := range stringsOf("-0.19", 5) {
		for digits := range 4 {
			n, e := units.Parse(s, digits)
			if e == api.OK && units.Decimal(n, digits) != s {
				t.Errorf("Decimal of Parse(%q, %d) is %q", s, digits, units.Decimal(n, digits))
			}
		}
	}
}

// stringsOf returns all strings of at most so many bytes that consist of some bytes.
func stringsOf(bytes string, most int) []string {
	all := []string{""}
	for from := 0; most > 0; most-- {
		until := len(all)
		for _, s := range all[from:until] {
			for _, c := range bytes {
				all = append(all, s+string(c))
			}
		}
		from = until
	}
	return all
}
