package lexer_test

import (
	"math"
	"math/rand"
	"regexp"
	"sawmill/api"
	"sawmill/lexer"
	"slices"
	"strconv"
	"strings"
	"testing"
)

const allMarks = "<= >= != .. < = > ( ) { } , ; : + - * / @"

func name(s string, at int) api.Lexeme { return api.Lexeme{Kind: api.LxName, Text: s, At: at} }

func number(n, at int) api.Lexeme {
	return api.Lexeme{Kind: api.LxNumber, Text: strconv.Itoa(n), N: n, At: at}
}

func mark(s string, at int) api.Lexeme { return api.Lexeme{Kind: api.LxMark, Text: s, At: at} }

func end(at int) api.Lexeme { return api.Lexeme{Kind: api.LxEnd, At: at} }

// The patterns of what can stand at a place, told apart from the program's own way.
var (
	gapPattern    = regexp.MustCompile(`(?s)^(?:[ \n]|#[^\n]*)*`)
	lexemePattern = regexp.MustCompile(`(?s)^(?:([A-Za-z_][A-Za-z0-9_]*)|([0-9]+)|(<=|>=|!=|\.\.|[<=>(){},;:+*/@-]))`)
)

// wanted is what Scan has to return.
func wanted(s string) ([]api.Lexeme, api.Errno, int) {
	if len(s) > 8000 {
		return nil, api.ErrLong, 0
	}
	var l []api.Lexeme
	at := 0
	for {
		at += len(gapPattern.FindString(s[at:]))
		if at == len(s) {
			return append(l, end(at)), api.OK, 0
		}
		m := lexemePattern.FindStringSubmatch(s[at:])
		switch {
		case m == nil:
			return nil, api.ErrSyntax, at
		case m[1] != "":
			if len(m[1]) > 16 {
				return nil, api.ErrName, at
			}
			l = append(l, name(m[1], at))
		case m[2] != "":
			if len(m[2]) > 1 && m[2][0] == '0' {
				return nil, api.ErrSyntax, at
			}
			n, err := strconv.ParseInt(m[2], 10, 64)
			if err != nil || n > 1<<40 {
				return nil, api.ErrRange, at
			}
			l = append(l, number(int(n), at))
		default:
			l = append(l, mark(m[3], at))
		}
		at += len(m[0])
	}
}

// check compares what Scan returns with what is wanted.
func check(t *testing.T, s string, want []api.Lexeme, wantE api.Errno, wantAt int) {
	t.Helper()
	l, e, at := lexer.Scan(s)
	if !slices.Equal(l, want) || e != wantE || at != wantAt {
		t.Errorf("Scan(%.60q) = %v, %v, %d; want %v, %v, %d", s, l, e, at, want, wantE, wantAt)
	}
}

// samples returns all strings of at most so many of the given parts.
func samples(parts []string, most int) []string {
	all := []string{""}
	for from := 0; most > 0; most-- {
		until := len(all)
		for _, s := range all[from:until] {
			for _, p := range parts {
				all = append(all, s+p)
			}
		}
		from = until
	}
	return all
}

// texts returns short texts of all kinds and longer random ones, many of them with errors.
func texts() []string {
	l := samples(strings.Split("a,Z,_,0,7,.,<,=,!,#,\n, ,-,%,\xff", ","), 4)
	parts := append(strings.Fields(allMarks), "a", "Grade_2", "_", "x_", "0", "7", "10", "1099511627776", " ", "  ", "\n", "# rem\n", "#\n", "#<%\x00\xff\n", "a23456789012345_", "and", ",", "ä", "!", "1099511627777", "00", "abcdefghijklmnopq", "\t")
	random := rand.New(rand.NewSource(1))
	for range 30000 {
		usable := len(parts)
		if random.Intn(3) > 0 {
			usable -= 6 // without the parts that are errors
		}
		var s strings.Builder
		for range random.Intn(30) {
			s.WriteString(parts[random.Intn(usable)])
			if random.Intn(2) == 0 {
				s.WriteByte(' ')
			}
		}
		l = append(l, s.String())
	}
	return l
}

func TestScan(t *testing.T) { // P6.1
	for s, want := range map[string][]api.Lexeme{
		"":                           {end(0)},
		" \n  \n":                    {end(5)},
		"a<=12 # x":                  {name("a", 0), mark("<=", 1), number(12, 3), end(9)},
		"x1 = - 7":                   {name("x1", 0), mark("=", 3), mark("-", 5), number(7, 7), end(8)},
		"-7":                         {mark("-", 0), number(7, 1), end(2)},
		"a-1":                        {name("a", 0), mark("-", 1), number(1, 2), end(3)},
		"--":                         {mark("-", 0), mark("-", 1), end(2)},
		"12ab":                       {number(12, 0), name("ab", 2), end(4)},
		"12_":                        {number(12, 0), name("_", 2), end(3)},
		"0x1":                        {number(0, 0), name("x1", 1), end(3)},
		"_":                          {name("_", 0), end(1)},
		"__9 Az_09 Z a":              {name("__9", 0), name("Az_09", 4), name("Z", 10), name("a", 12), end(13)},
		"a b\nc":                     {name("a", 0), name("b", 2), name("c", 4), end(5)},
		"ab#c\nd":                    {name("ab", 0), name("d", 5), end(6)},
		"a#":                         {name("a", 0), end(2)},
		"#":                          {end(1)},
		"##\n#a":                     {end(5)},
		"#a\n\n#b\n c":               {name("c", 8), end(9)},
		"# \x00\t%\"ä\xff\r007\n1":   {number(1, 14), end(15)},
		"1# a % b":                   {number(1, 0), end(8)},
		"0":                          {number(0, 0), end(1)},
		"0 0":                        {number(0, 0), number(0, 2), end(3)},
		"10":                         {number(10, 0), end(2)},
		"1099511627776":              {number(1<<40, 0), end(13)},
		"1099511627775a":             {number(1<<40-1, 0), name("a", 13), end(14)},
		"-1099511627776":             {mark("-", 0), number(1<<40, 1), end(14)},
		"abcdefghijklmno_":           {name("abcdefghijklmno_", 0), end(16)},
		"1abcdefghijklmnop":          {number(1, 0), name("abcdefghijklmnop", 1), end(17)},
		"1..2":                       {number(1, 0), mark("..", 1), number(2, 3), end(4)},
		"....":                       {mark("..", 0), mark("..", 2), end(4)},
		"<==":                        {mark("<=", 0), mark("=", 2), end(3)},
		"<<=":                        {mark("<", 0), mark("<=", 1), end(3)},
		">=>":                        {mark(">=", 0), mark(">", 2), end(3)},
		"=<=":                        {mark("=", 0), mark("<=", 1), end(3)},
		"=>=":                        {mark("=", 0), mark(">=", 1), end(3)},
		"==":                         {mark("=", 0), mark("=", 1), end(2)},
		"!=!=":                       {mark("!=", 0), mark("!=", 2), end(4)},
		"< =":                        {mark("<", 0), mark("=", 2), end(3)},
		"(a){b},c;:+*/@<>":           {mark("(", 0), name("a", 1), mark(")", 2), mark("{", 3), name("b", 4), mark("}", 5), mark(",", 6), name("c", 7), mark(";", 8), mark(":", 9), mark("+", 10), mark("*", 11), mark("/", 12), mark("@", 13), mark("<", 14), mark(">", 15), end(16)},
		"kiln\n  { at 600 ; }\n#end": {name("kiln", 0), mark("{", 7), name("at", 9), number(600, 12), mark(";", 16), mark("}", 18), end(24)},
	} {
		check(t, s, want, api.OK, 0)
	}
}

func TestScanErrors(t *testing.T) { // P6.1
	long, digits, rest := strings.Repeat("n", 17), "1099511627777", strings.Repeat(" ", 7990)
	for _, x := range []struct {
		s  string
		e  api.Errno
		at int
	}{
		{"a % b", api.ErrSyntax, 2}, {"007", api.ErrSyntax, 0}, {"1...", api.ErrSyntax, 3}, {"00", api.ErrSyntax, 0}, {"a 01", api.ErrSyntax, 2}, {"a01 01", api.ErrSyntax, 4}, {"-00", api.ErrSyntax, 1}, {"1 00a", api.ErrSyntax, 2},
		{".", api.ErrSyntax, 0}, {"a.b", api.ErrSyntax, 1}, {"1.5", api.ErrSyntax, 1}, {". .", api.ErrSyntax, 0}, {"!", api.ErrSyntax, 0}, {"a! =", api.ErrSyntax, 1}, {"=!", api.ErrSyntax, 1}, {"!!=", api.ErrSyntax, 0},
		{"\t", api.ErrSyntax, 0}, {"a\r\n", api.ErrSyntax, 1}, {"\v", api.ErrSyntax, 0}, {"a\x00", api.ErrSyntax, 1}, {"\x7f", api.ErrSyntax, 0}, {"ä", api.ErrSyntax, 0}, {"aä", api.ErrSyntax, 1}, {"1é", api.ErrSyntax, 1}, {"a\xff", api.ErrSyntax, 1}, {"\xaa", api.ErrSyntax, 0}, {"7\xb2", api.ErrSyntax, 1}, {"\u0660", api.ErrSyntax, 0}, {"a\u00a0b", api.ErrSyntax, 1}, {"a\u2028b", api.ErrSyntax, 1}, {"\ufeffa", api.ErrSyntax, 0}, {"#ä\nä", api.ErrSyntax, 4},
		{digits, api.ErrRange, 0}, {"x " + digits, api.ErrRange, 2}, {digits + "x", api.ErrRange, 0}, {"-" + digits, api.ErrRange, 1}, {"9223372036854775808", api.ErrRange, 0}, {"18446744073709551616", api.ErrRange, 0}, {"18446744073709551617", api.ErrRange, 0}, {strings.Repeat("9", 8000), api.ErrRange, 0}, {"1" + strings.Repeat("0", 7999), api.ErrRange, 0},
		{"0" + digits, api.ErrSyntax, 0}, {strings.Repeat("0", 8000), api.ErrSyntax, 0}, {"0" + strings.Repeat("9", 7999), api.ErrSyntax, 0},
		{long, api.ErrName, 0}, {"a " + long, api.ErrName, 2}, {"1" + long, api.ErrName, 1}, {"_" + strings.Repeat("0", 16), api.ErrName, 0}, {strings.Repeat("Z", 8000), api.ErrName, 0}, {long + "%", api.ErrName, 0},
		{"% " + long, api.ErrSyntax, 0}, {long + " %", api.ErrName, 0}, {digits + " " + long, api.ErrRange, 0}, {"00 " + digits, api.ErrSyntax, 0}, {digits + " 00", api.ErrRange, 0},
		{rest + "1234567890", api.OK, 0}, {rest + "12345678901", api.ErrLong, 0}, {rest + "123456789%", api.ErrSyntax, 7999}, {"%" + rest + rest, api.ErrLong, 0}, {"#" + rest + "123456789", api.OK, 0}, {"#" + rest + "1234567890", api.ErrLong, 0}, {strings.Repeat("%", 8001), api.ErrLong, 0}, {strings.Repeat("a", 100000), api.ErrLong, 0},
	} {
		l, e, at := lexer.Scan(x.s)
		if e != x.e || at != x.at || e != api.OK && len(l) != 0 {
			t.Errorf("Scan(%.60q) = %d lexemes, %v, %d; want %v, %d", x.s, len(l), e, at, x.e, x.at)
		}
	}
}

func TestScanOfAnyText(t *testing.T) { // P6.1
	for _, s := range texts() {
		l, e, at := wanted(s)
		check(t, s, l, e, at)
	}
	for c := range 256 {
		for _, s := range []string{string([]byte{byte(c)}), string([]byte{'a', byte(c)}), string([]byte{'7', byte(c)}), string([]byte{byte(c), '='}), string([]byte{'#', byte(c)}), string([]byte{' ', byte(c), '.'})} {
			l, e, at := wanted(s)
			check(t, s, l, e, at)
		}
	}
}

func TestPrint(t *testing.T) { // P6.2
	for _, x := range []struct {
		l []api.Lexeme
		s string
	}{
		{nil, ""}, {[]api.Lexeme{}, ""}, {[]api.Lexeme{end(0)}, ""}, {[]api.Lexeme{end(3), end(5)}, ""},
		{[]api.Lexeme{name("a", 7)}, "a"}, {[]api.Lexeme{name("a", 0), mark("<=", 1), number(12, 3), end(9)}, "a <= 12"},
		{[]api.Lexeme{end(0), name("a", 0), end(1), end(1), name("b", 0), end(1)}, "a b"},
		{[]api.Lexeme{{Kind: api.LxEnd, Text: "x", N: 1}, {Kind: 99, Text: "a b\n"}, {Kind: -1, Text: "%"}, {Kind: math.MinInt, Text: "\xff"}}, "a b\n % \xff"},
		{[]api.Lexeme{{Kind: api.LxName}, {Kind: api.LxMark}, {Kind: api.LxNumber, N: 5}}, "  "},
		{[]api.Lexeme{{Kind: api.LxName}, end(0), {Kind: api.LxName, Text: "a"}, {Kind: api.LxName}}, " a "},
		{[]api.Lexeme{{Kind: api.LxNumber, Text: "1", N: 2}, {Kind: api.LxNumber, Text: "3", N: math.MinInt}}, "1 3"},
	} {
		if s := lexer.Print(x.l); s != x.s {
			t.Errorf("Print(%v) = %q; want %q", x.l, s, x.s)
		}
	}
	many := slices.Repeat([]api.Lexeme{mark("@", 0)}, 100000)
	if s := lexer.Print(many); s != strings.TrimSuffix(strings.Repeat("@ ", 100000), " ") {
		t.Error("a long list is printed otherwise")
	}
}

func TestSame(t *testing.T) { // P6.3
	list := []api.Lexeme{name("a", 0), number(12, 3), end(9)}
	for _, l := range [][]api.Lexeme{list, {name("a", 5), number(12, 0), end(-1)}, {name("a", math.MinInt), number(12, math.MaxInt), end(0)}} {
		if !lexer.Same(list, l) || !lexer.Same(l, list) {
			t.Errorf("%v and %v are not the same", list, l)
		}
	}
	for _, l := range [][]api.Lexeme{
		nil, {}, list[:2], list[1:], append(slices.Clone(list), end(9)), {end(9)},
		{mark("a", 0), number(12, 3), end(9)}, {name("b", 0), number(12, 3), end(9)}, {name("", 0), number(12, 3), end(9)},
		{name("a", 0), number(13, 3), end(9)}, {name("a", 0), {Kind: api.LxNumber, Text: "12", N: 13, At: 3}, end(9)}, {name("a", 0), {Kind: api.LxNumber, Text: "13", N: 12, At: 3}, end(9)},
		{name("a", 0), end(9), number(12, 3)}, {name("a", 0), number(12, 3), {Kind: api.LxEnd, Text: " ", At: 9}}, {name("a", 0), number(12, 3), {Kind: api.LxEnd, N: 1, At: 9}}, {name("a", 0), number(12, 3), name("", 9)},
	} {
		if lexer.Same(list, l) || lexer.Same(l, list) {
			t.Errorf("%v and %v are the same", list, l)
		}
	}
	if !lexer.Same(nil, nil) || !lexer.Same(nil, []api.Lexeme{}) || !lexer.Same([]api.Lexeme{}, nil) {
		t.Error("empty lists are not the same")
	}
	if at := list[0].At; at != 0 || list[1].At != 3 || list[2].At != 9 {
		t.Error("the argument has changed:", list)
	}
}

func TestIsMark(t *testing.T) { // P6.4
	marks := strings.Fields(allMarks)
	for _, s := range marks {
		check(t, s, []api.Lexeme{mark(s, 0), end(len(s))}, api.OK, 0)
	}
	var bytes []string
	for c := range 256 {
		bytes = append(bytes, string([]byte{byte(c)}))
	}
	for _, s := range append(samples(bytes, 2), "...", "<= ", " <=", "<=>", "..=", "<=\n", allMarks, strings.Repeat("<", 100000)) {
		if is := lexer.IsMark(s); is != slices.Contains(marks, s) {
			t.Errorf("IsMark(%.20q) = %v", s, is)
		}
	}
}

func TestOffsets(t *testing.T) { // P6.5
	for _, s := range texts() {
		l, e, _ := lexer.Scan(s)
		if e != api.OK {
			continue
		}
		at := 0
		for _, x := range l {
			if x.At < at || !strings.HasPrefix(s[x.At:], x.Text) || gapPattern.FindString(s[at:x.At]) != s[at:x.At] {
				t.Errorf("Scan(%q): %v behind %d", s, x, at)
				break
			}
			at = x.At + len(x.Text)
		}
		if at != len(s) {
			t.Errorf("Scan(%q) ends at %d", s, at)
		}
	}
}

func TestPrintedTextsComeBack(t *testing.T) { // P6.6
	half := api.MaxText / 2
	for _, s := range append(texts(), strings.Repeat("@", half), strings.Repeat("1=", half/2), strings.Repeat("<", half), strings.Repeat("a#\n", half/3)) {
		l, e, _ := lexer.Scan(s)
		if e != api.OK {
			continue
		}
		m, e, at := lexer.Scan(lexer.Print(l))
		if e != api.OK || at != 0 || !lexer.Same(l, m) {
			t.Errorf("Scan(%.60q) = %v, but the printed text has %v, %v", s, l, m, e)
		}
	}
}

func TestJoinedTexts(t *testing.T) { // P6.6
	all := texts()
	all = append(all, "", "# remark", "a #", "12", strings.Repeat(" ", 4000))
	random := rand.New(rand.NewSource(2))
	for range 20000 {
		a, b := all[random.Intn(len(all))], all[random.Intn(len(all))]
		checkJoined(t, a, b)
	}
	checkJoined(t, strings.Repeat("@", 3999), strings.Repeat("#", 4000))
	checkJoined(t, "# a", "b")
	checkJoined(t, "a", "b")
	checkJoined(t, "1", "2")
	checkJoined(t, "<", "=")
}

func checkJoined(t *testing.T, a, b string) {
	t.Helper()
	l, e, _ := lexer.Scan(a)
	m, f, _ := lexer.Scan(b)
	if e != api.OK || f != api.OK || len(a)+1+len(b) > api.MaxText {
		return
	}
	want := slices.Clone(l[:len(l)-1])
	for _, x := range m {
		x.At += len(a) + 1
		want = append(want, x)
	}
	check(t, a+"\n"+b, want, api.OK, 0)
}

func TestErrorOffsets(t *testing.T) { // P6.7
	for _, s := range texts() {
		l, e, at := lexer.Scan(s)
		if e == api.OK {
			if at != 0 {
				t.Errorf("Scan(%q) has no error, but the offset %d", s, at)
			}
			continue
		}
		if len(l) != 0 || at < 0 || at >= len(s) {
			t.Errorf("Scan(%q): %d lexemes and an error at %d", s, len(l), at)
			continue
		}
		if _, e, _ := lexer.Scan(s[:at]); e != api.OK {
			t.Errorf("Scan(%q) has an error at %d, but ahead of it there is %v", s, at, e)
		}
	}
}
