package clock_test

import (
	"fmt"
	"math"
	"math/rand"
	"regexp"
	"sawmill/api"
	"sawmill/clock"
	"strconv"
	"strings"
	"testing"
)

// pattern is the form of a time, told apart from the program's own way.
var pattern = regexp.MustCompile(`^d(0|[1-9][0-9]*) ([01][0-9]|2[0-3]):([0-5][0-9])\z`)

// wanted is what Parse has to return.
func wanted(s string) (int, api.Errno) {
	m := pattern.FindStringSubmatch(s)
	if m == nil {
		return 0, api.ErrSyntax
	}
	days, err := strconv.Atoi(m[1])
	if err != nil || days > 1<<40 {
		return 0, api.ErrSyntax
	}
	hours, _ := strconv.Atoi(m[2])
	minutes, _ := strconv.Atoi(m[3])
	at := 1440*days + 60*hours + minutes
	if at > 10000000 {
		return 0, api.ErrTime
	}
	return at, api.OK
}

func TestFormat(t *testing.T) { // P7.6
	for at, want := range map[int]string{0: "d0 00:00", 1: "d0 00:01", 9: "d0 00:09", 10: "d0 00:10", 59: "d0 00:59", 60: "d0 01:00", 600: "d0 10:00", 840: "d0 14:00", 1439: "d0 23:59", 1440: "d1 00:00", 17705: "d12 07:05", week: "d7 00:00", api.MaxTime - 1: "d6944 10:39", api.MaxTime: "d6944 10:40", api.MaxTime + 1: "", -1: "", -1440: "", math.MinInt: "", math.MaxInt: ""} {
		if s := clock.Format(at); s != want {
			t.Errorf("Format(%d) = %q; want %q", at, s, want)
		}
	}
	for at := 0; at <= api.MaxTime; at += 1 + at/1000 {
		if s, want := clock.Format(at), fmt.Sprintf("d%d %02d:%02d", at/1440, at/60%24, at%60); s != want {
			t.Errorf("Format(%d) = %q; want %q", at, s, want)
		}
	}
}

func TestParse(t *testing.T) { // P7.7
	for _, x := range []struct {
		s  string
		at int
		e  api.Errno
	}{
		{"d0 00:00", 0, api.OK}, {"d0 00:09", 9, api.OK}, {"d0 14:00", 840, api.OK}, {"d0 23:59", 1439, api.OK}, {"d1 00:00", 1440, api.OK}, {"d10 00:00", 14400, api.OK}, {"d6944 10:40", api.MaxTime, api.OK},
		{"d6944 10:41", 0, api.ErrTime}, {"d6944 11:00", 0, api.ErrTime}, {"d6945 00:00", 0, api.ErrTime}, {"d99999 23:59", 0, api.ErrTime}, {"d1099511627775 00:00", 0, api.ErrTime}, {"d1099511627776 00:00", 0, api.ErrTime}, {"d1099511627776 23:59", 0, api.ErrTime},
		{"d1099511627777 00:00", 0, api.ErrSyntax}, {"d9223372036854775807 00:00", 0, api.ErrSyntax}, {"d9223372036854775808 00:00", 0, api.ErrSyntax}, {"d18446744073709551616 00:00", 0, api.ErrSyntax}, {"d" + strings.Repeat("9", 5000) + " 00:00", 0, api.ErrSyntax}, {"d" + strings.Repeat("0", 5000) + " 00:00", 0, api.ErrSyntax},
		{"d0 24:00", 0, api.ErrSyntax}, {"d0 30:00", 0, api.ErrSyntax}, {"d0 99:00", 0, api.ErrSyntax}, {"d0 00:60", 0, api.ErrSyntax}, {"d0 00:99", 0, api.ErrSyntax}, {"d6945 24:00", 0, api.ErrSyntax}, {"d6944 10:60", 0, api.ErrSyntax},
		{"d00 01:00", 0, api.ErrSyntax}, {"d01 01:00", 0, api.ErrSyntax}, {"d-0 01:00", 0, api.ErrSyntax}, {"d-1 01:00", 0, api.ErrSyntax}, {"d+1 01:00", 0, api.ErrSyntax}, {"d1_0 01:00", 0, api.ErrSyntax}, {"d0x1 01:00", 0, api.ErrSyntax},
		{"", 0, api.ErrSyntax}, {"d", 0, api.ErrSyntax}, {" ", 0, api.ErrSyntax}, {":", 0, api.ErrSyntax}, {"d :", 0, api.ErrSyntax}, {"d 01:00", 0, api.ErrSyntax}, {"d0", 0, api.ErrSyntax}, {"d0 ", 0, api.ErrSyntax}, {"d0 :", 0, api.ErrSyntax}, {"d0 01", 0, api.ErrSyntax}, {"d0 01:", 0, api.ErrSyntax}, {"d0 :01", 0, api.ErrSyntax}, {"d001:00", 0, api.ErrSyntax}, {"d0 0100", 0, api.ErrSyntax}, {"d0:01 00", 0, api.ErrSyntax}, {"0 01:00", 0, api.ErrSyntax}, {"D0 01:00", 0, api.ErrSyntax}, {"dd0 01:00", 0, api.ErrSyntax}, {"840", 0, api.ErrSyntax},
		{"d0 1:00", 0, api.ErrSyntax}, {"d0 01:0", 0, api.ErrSyntax}, {"d0 001:00", 0, api.ErrSyntax}, {"d0 01:000", 0, api.ErrSyntax}, {"d0 +1:00", 0, api.ErrSyntax}, {"d0 -1:00", 0, api.ErrSyntax}, {"d0 01:-1", 0, api.ErrSyntax}, {"d0 01:+1", 0, api.ErrSyntax}, {"d0 01:00:00", 0, api.ErrSyntax}, {"d0 01::0", 0, api.ErrSyntax}, {"d0 0a:00", 0, api.ErrSyntax}, {"d0 01:0a", 0, api.ErrSyntax}, {"d0 01:/9", 0, api.ErrSyntax}, {"da 01:00", 0, api.ErrSyntax},
		{" d0 01:00", 0, api.ErrSyntax}, {"d0 01:00 ", 0, api.ErrSyntax}, {"d0 01:00\n", 0, api.ErrSyntax}, {"d 0 01:00", 0, api.ErrSyntax}, {"d0  01:00", 0, api.ErrSyntax}, {"d0 01 :00", 0, api.ErrSyntax}, {"d0 01: 0", 0, api.ErrSyntax}, {"d0 0 1:00", 0, api.ErrSyntax}, {"d0\t01:00", 0, api.ErrSyntax}, {"d0 \x00\x00:00", 0, api.ErrSyntax}, {"d\xff 01:00", 0, api.ErrSyntax}, {"d٣ 01:00", 0, api.ErrSyntax}, {"d0 ä:00", 0, api.ErrSyntax}, {"d0 01:é", 0, api.ErrSyntax},
	} {
		if at, e := clock.Parse(x.s); at != x.at || e != x.e {
			t.Errorf("Parse(%.40q) = %d, %v; want %d, %v", x.s, at, e, x.at, x.e)
		}
	}
}

// samples returns strings that are times, and ones that differ from times in one or two bytes.
func samples() []string {
	l := []string{""}
	random := rand.New(rand.NewSource(6))
	const bytes = "d0123456789 :-+\x00\n/;a\xff\xc3"
	for _, s := range []string{"d0 00:00", "d0 14:00", "d1 23:59", "d12 07:05", "d6944 10:40", "d6945 00:00", "d1099511627776 00:00"} {
		for at := range len(s) {
			l = append(l, s, s[:at], s[at:], s[:at]+s[at+1:])
			for c := range 256 {
				l = append(l, s[:at]+string([]byte{byte(c)})+s[at+1:], s[:at]+string([]byte{byte(c)})+s[at:])
			}
		}
		for range 5000 {
			b := []byte(s)
			for range 2 {
				b[random.Intn(len(b))] = bytes[random.Intn(len(bytes))]
			}
			l = append(l, string(b))
		}
	}
	return l
}

func TestParseOfAnyText(t *testing.T) { // P7.7, P7.11
	for _, s := range samples() {
		wantAt, wantE := wanted(s)
		at, e := clock.Parse(s)
		if at != wantAt || e != wantE {
			t.Errorf("Parse(%q) = %d, %v; want %d, %v", s, at, e, wantAt, wantE)
		}
		if e == api.OK && clock.Format(at) != s {
			t.Errorf("Format of Parse(%q) is %q", s, clock.Format(at))
		}
	}
}

func TestTimesComeBack(t *testing.T) { // P7.11
	for at := 0; at <= api.MaxTime; at += 1 + at/2000 {
		checkComesBack(t, at)
	}
	for at := api.MaxTime - 3000; at <= api.MaxTime; at++ {
		checkComesBack(t, at)
	}
}

func checkComesBack(t *testing.T, at int) {
	t.Helper()
	s := clock.Format(at)
	if n, e := clock.Parse(s); n != at || e != api.OK {
		t.Errorf("Parse(%q) = %d, %v; want %d", s, n, e, at)
	}
}
