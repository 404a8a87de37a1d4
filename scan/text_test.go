package scan_test

import (
	"encoding/binary"
	"math"
	"math/rand"
	"sawmill/api"
	"sawmill/scan"
	"slices"
	"strings"
	"testing"
)

// field returns the encoding of a list of numbers.
func field(l ...int) string {
	code := binary.AppendUvarint(nil, uint64(len(l)))
	for _, n := range l {
		code = binary.AppendVarint(code, int64(n))
	}
	return string(code)
}

// textOf returns the text of a scan, valid or not.
func textOf(s api.Scan) string {
	var all, defects []int
	rings := ""
	for _, r := range s.Rings {
		all = append(all, r.Z)
		var l []int
		for _, x := range r.Read {
			if x.Ok {
				l = append(l, 1, x.P.X, x.P.Y)
			} else {
				l = append(l, 0)
			}
		}
		rings += field(l...)
	}
	for _, d := range s.Defects {
		b := d.Box
		defects = append(defects, d.Kind, b.X.A, b.X.B, b.Y.A, b.Y.B, b.Z.A, b.Z.B)
	}
	return field(all...) + rings + field(defects...)
}

// eight is the field of a ring of eight gaps.
const eight = "\x08\x00\x00\x00\x00\x00\x00\x00\x00"

func TestEncode(t *testing.T) { // P15.5
	gaps := api.Scan{Rings: []api.Ring{{Read: make([]api.Reading, 8)}, {Z: 1000, Read: make([]api.Reading, 8)}}}
	// -50 is encoded as 99, -20 as 39, 50 as 100 (d), 20 as 40 ((), and 1000 as 2000.
	example1 := "\x18\x02c'\x02\x00'\x02d'\x02d\x00\x02d(\x02\x00(\x02c(\x02c\x00"
	rot := knot(0, 1000)
	rot.Kind, rot.Box.X.A = api.DfRot, -3
	for _, x := range []struct {
		s    api.Scan
		want string
	}{
		{gaps, "\x02\x00\xd0\x0f" + eight + eight + "\x00"}, {example(0, 1000), "\x02\x00\xd0\x0f" + example1 + example1 + "\x00"}, {example(0, 1, 3), "\x03\x00\x02\x06" + example1 + example1 + example1 + "\x00"}, {marked(example(0, 1000), knot(0, 100), rot), "\x02\x00\xd0\x0f" + example1 + example1 + "\x0e\x02\x14\x28\x00\x14\x00\xc8\x01\x06\x05\x28\x00\x14\x00\xd0\x0f"}, {gap(gap(example(0, 1000), 0, 0), 1, 7), "\x02\x00\xd0\x0f\x16\x00\x02\x00'\x02d'\x02d\x00\x02d(\x02\x00(\x02c(\x02c\x00\x16\x02c'\x02\x00'\x02d'\x02d\x00\x02d(\x02\x00(\x02c(\x00\x00"},
	} {
		if s, e := scan.Encode(x.s); s != x.want || e != api.OK {
			fail(t, "Encode(%v) = %q, %v; want %q", x.s, s, e, x.want)
		}
	}
	for _, x := range scans() {
		if s, e := scan.Encode(x); s != textOf(x) || e != api.OK {
			fail(t, "Encode(%v) = %q, %v; want %q", x, s, e, textOf(x))
		}
	}
	l, codes := notScans()
	for i, x := range l {
		if s, e := scan.Encode(x); s != "" || e != codes[i] {
			fail(t, "Encode(%v) = %q, %v; want %v", x, s, e, codes[i])
		}
	}
}

// two returns a text with the rings at 0 and 1000, and the fields of the rings and of the defects.
func two(a, b, defects string) string { return "\x02\x00\xd0\x0f" + a + b + defects }

// numbers returns so many equal numbers.
func numbers(count, n int) []int { return slices.Repeat([]int{n}, count) }

// points returns the numbers of so many readings of one point.
func points(count, x, y int) []int { return slices.Repeat([]int{1, x, y}, count) }

func TestDecode(t *testing.T) { // P15.6
	const huge = api.MaxNumber
	full, gaps := field(points(32, -most, most)...), field(numbers(32, 0)...)
	good := []int{1, 10, 20, 0, 10, 0, 1000}
	eights := func(first ...int) string { return field(append(first, points(7, 5, 5)...)...) }
	for i, x := range []struct {
		text string
		e    api.Errno
	}{
		{two(eight, eight, "\x00"), api.OK}, {two(full, full, "\x00"), api.OK}, {two(full, gaps, "\x00"), api.OK}, {two(eight, eight, field(good...)), api.OK}, {two(eight, eight, field(slices.Repeat(good, 64)...)), api.OK}, {field(0, 5) + eights(0) + eights(1, most, -most) + "\x00", api.OK},
		{"", api.ErrSyntax}, {"\x00", api.ErrSyntax}, {"\x00\x00", api.ErrShort}, {"\x00\x00\x00", api.ErrSyntax}, {"\x00\x07", api.ErrSyntax}, {"\x01\x00\x00\x00", api.ErrShort}, {"\x01\x00" + eight + "\x00", api.ErrShort}, {"\x02\x00\xd0\x0f\x00\x00\x00", api.ErrShort}, {"\x01\x00\x00", api.ErrSyntax}, {"\x00" + field(good...), api.ErrShort},
		{two(eight, eight, ""), api.ErrSyntax}, {two(eight, "", "\x00"), api.ErrSyntax}, {two(eight, eight+eight, "\x00"), api.ErrSyntax}, {two(eight, eight, "\x00\x00"), api.ErrSyntax}, {two(eight, eight, "\x00x"), api.ErrSyntax}, {two(eight, eight, "\x80\x00"), api.ErrSyntax}, {two(eight, eight, "\x80"), api.ErrSyntax}, {two(eight, "\x08\x00\x00\x00\x00\x00\x00\x00\x80\x00", "\x00"), api.ErrSyntax}, {two(eight, "\x88\x00\x00\x00\x00\x00\x00\x00\x00\x00", "\x00"), api.ErrSyntax}, {two(eight, strings.Repeat("\xff", 9)+"\x01", "\x00"), api.ErrSyntax}, {"\x02\x80\x00\xd0\x0f" + eight + eight + "\x00", api.ErrSyntax},
		// Every reading begins with 0 or 1, and behind the latter there are two numbers.
		{two(eight, field(1, 5, 5, 0, 0, 0, 0, 0, 0, 0), "\x00"), api.OK}, {two(eight, field(2, 5, 5, 0, 0, 0, 0, 0, 0, 0), "\x00"), api.ErrSyntax}, {two(eight, field(-1, 5, 5, 0, 0, 0, 0, 0, 0, 0), "\x00"), api.ErrSyntax}, {two(eight, field(0, 0, 0, 0, 0, 0, 0, 2), "\x00"), api.ErrSyntax}, {two(eight, field(0, 0, 0, 0, 0, 0, 0, 1), "\x00"), api.ErrSyntax}, {two(eight, field(0, 0, 0, 0, 0, 0, 0, 1, 5), "\x00"), api.ErrSyntax}, {two(eight, field(0, 0, 0, 0, 0, 0, 0, 1, 5, 5), "\x00"), api.OK}, {two(field(2), eight, "\x00"), api.ErrSyntax}, {two(field(1), eight, "\x00"), api.ErrSyntax}, {two("\x00", field(1, 2), "\x00"), api.ErrSyntax}, {two(eights(1, 0, 0), field(append([]int{0, huge}, numbers(7, 0)...)...), "\x00"), api.ErrSyntax},
		// The form is wider than the limits of a scan, but has limits of its own.
		{two(eight, field(numbers(33, 0)...), "\x00"), api.ErrLong}, {two(field(numbers(96, 0)...), eight, "\x00"), api.ErrLong}, {two(field(numbers(97, 0)...), eight, "\x00"), api.ErrSyntax}, {two(eight, field(numbers(96, 0)...), "\x00"), api.ErrLong}, {two(full, field(append(points(31, 0, 0), 0, 0, 0)...), "\x00"), api.ErrLong}, {two(full, field(points(33, 0, 0)...), "\x00"), api.ErrSyntax}, {two(eight, field(numbers(7, 0)...), "\x00"), api.ErrShort}, {two(eight, field(numbers(9, 0)...), "\x00"), api.ErrShape},
		{field(numbers(24, 0)...) + strings.Repeat(eight, 24) + "\x00", api.ErrOrder}, {field(numbers(25, 0)...) + strings.Repeat(eight, 25) + "\x00", api.ErrSyntax}, {field(numbers(24, 0)...) + strings.Repeat("\x00", 24) + "\x00", api.ErrShort}, {field(numbers(24, 0)...) + strings.Repeat(eight, 23) + "\x00", api.ErrSyntax}, {field(numbers(24, 0)...) + strings.Repeat(eight, 25) + "\x00", api.ErrSyntax},
		{two(eight, eight, field(slices.Repeat(good, 65)...)), api.ErrSyntax}, {two(eight, eight, field(numbers(448, 0)...)), api.ErrKind}, {two(eight, eight, field(numbers(449, 0)...)), api.ErrSyntax}, {two(eight, eight, field(numbers(455, 0)...)), api.ErrSyntax}, {two(eight, eight, field(1)), api.ErrSyntax}, {two(eight, eight, field(good[:6]...)), api.ErrSyntax}, {two(eight, eight, field(append(good[:7:7], 1)...)), api.ErrSyntax}, {two(eight, eight, "\x07\x02"), api.ErrSyntax},
		// Numbers of a magnitude up to MaxNumber have the form, and are out of range.
		{field(0, huge) + eight + eight + "\x00", api.ErrRange}, {field(0, huge+1) + eight + eight + "\x00", api.ErrSyntax}, {field(-huge, 5) + eight + eight + "\x00", api.ErrRange}, {field(-huge-1, 5) + eight + eight + "\x00", api.ErrSyntax}, {field(0, math.MinInt) + eight + eight + "\x00", api.ErrSyntax}, {field(0, math.MaxInt) + eight + eight + "\x00", api.ErrSyntax},
		{two(eights(1, huge, 0), full, "\x00"), api.ErrRange}, {two(eights(1, huge+1, 0), full, "\x00"), api.ErrSyntax}, {two(eights(1, 0, -huge), full, "\x00"), api.ErrRange}, {two(eights(1, 0, -huge-1), full, "\x00"), api.ErrSyntax}, {two(eights(huge, 0, 0), full, "\x00"), api.ErrSyntax}, {two(eights(1, most+1, 0), full, "\x00"), api.ErrRange},
		{two(eight, eight, field(huge, 0, 1, 0, 1, 0, 1)), api.ErrKind}, {two(eight, eight, field(huge+1, 0, 1, 0, 1, 0, 1)), api.ErrSyntax}, {two(eight, eight, field(1, -huge, huge, 0, 1, 0, 1)), api.ErrRange}, {two(eight, eight, field(1, huge, -huge, 0, 1, 0, 1)), api.ErrShape}, {two(eight, eight, field(1, -huge-1, huge, 0, 1, 0, 1)), api.ErrSyntax}, {two(eight, eight, field(1, 0, 1, 0, 1, 0, huge)), api.ErrRange}, {two(eight, eight, field(1, 0, 1, 0, 1, 0, huge+1)), api.ErrSyntax}, {two(eight, eight, field(1, 0, 1, 0, 1, 0, 1001)), api.ErrRange},
		// A fault of the form comes first, wherever it is.
		{field(0, 0) + eight + eight + "\x07", api.ErrSyntax}, {field(5, 5) + "\x00" + eight + "\x00\x00", api.ErrSyntax}, {field(0, 0) + field(2) + eight + "\x00", api.ErrSyntax}, {field(0, 0) + eight + eight + "\x00", api.ErrOrder}, {field(7) + eight + "\x00\x01", api.ErrSyntax},
	} {
		s, e := scan.Decode(x.text)
		if e != x.e || e != api.OK && !same(s, api.Scan{}) || e == api.OK && textOf(s) != x.text {
			fail(t, "%d: Decode(%q) = %v, %v; want %v", i, x.text, s, e, x.e)
		}
	}
}

func TestDescribed(t *testing.T) { // P15.6
	s, e := scan.Decode(two("\x0c\x02\x0a\x03\x00\x00\x02\xb0\x09\xaf\x09\x00\x00\x00\x00", eight, "\x07\x0c\x01\x02\x03\x04\x02\xd0\x0f"))
	want := api.Scan{Rings: []api.Ring{{Read: make([]api.Reading, 8)}, {Z: 1000, Read: make([]api.Reading, 8)}}}
	want = at(at(want, 0, 0, 5, -2), 0, 3, 600, -600)
	want.Defects = list(api.Defect{Kind: 6, Box: api.Box{X: api.Span{A: -1, B: 1}, Y: api.Span{A: -2, B: 2}, Z: api.Span{A: 1, B: 1000}}})
	if !same(s, want) || e != api.OK {
		fail(t, "Decode = %v, %v; want %v", s, e, want)
	}
	l, _ := notScans()
	for _, x := range l {
		// Nothing of a gap is in a text but that it is one.
		described, form := clone(x), len(x.Rings) <= 24 && len(x.Defects) <= 64
		for r, ring := range described.Rings {
			count := 0
			for i, reading := range ring.Read {
				count += 3
				if !reading.Ok {
					described.Rings[r].Read[i].P = api.Point{}
					count -= 2
				}
			}
			form = form && count <= 96
		}
		fits := func(n int) bool { return -api.MaxNumber <= n && n <= api.MaxNumber }
		for _, r := range x.Rings {
			form = form && fits(r.Z)
		}
		for _, d := range x.Defects {
			form = form && fits(d.Box.Z.B)
		}
		want := scan.Check(described)
		if !form {
			want = api.ErrSyntax
		}
		s, e := scan.Decode(textOf(x))
		if e != want || e != api.OK && !same(s, api.Scan{}) || e == api.OK && !same(s, described) {
			fail(t, "Decode of the text of %v = %v, %v; want %v", x, s, e, want)
		}
	}
}

func TestTexts(t *testing.T) { // P15.11
	for _, x := range scans() {
		text, _ := scan.Encode(x)
		if s, e := scan.Decode(text); !same(s, x) || e != api.OK {
			fail(t, "Decode(Encode(%v)) = %v, %v", x, s, e)
		}
	}
	for _, x := range scans()[:20] {
		text, _ := scan.Encode(x)
		for i := range text {
			if s, e := scan.Decode(text[:i]); !same(s, api.Scan{}) || e != api.ErrSyntax {
				fail(t, "Decode of the first %d bytes of %q = %v, %v", i, text, s, e)
			}
		}
	}
}

func TestChangedTexts(t *testing.T) { // P15.6, P15.11
	random := rand.New(rand.NewSource(3))
	accepted := 0
	for _, x := range scans() {
		text, _ := scan.Encode(x)
		for range 150 {
			b := []byte(text)
			for range 1 + random.Intn(2) {
				i := random.Intn(len(b))
				switch random.Intn(4) {
				case 0:
					b = slices.Delete(b, i, i+1)
				case 1:
					b = slices.Insert(b, i, byte(random.Intn(256)))
				default:
					b[i] = byte(int(b[i]) + random.Intn(7) - 3)
				}
			}
			s, e := scan.Decode(string(b))
			if e != api.OK {
				if !same(s, api.Scan{}) {
					fail(t, "Decode(%q) = %v, %v", string(b), s, e)
				}
				continue
			}
			accepted++
			if again, f := scan.Encode(s); again != string(b) || f != api.OK {
				fail(t, "Encode(Decode(%q)) = %q, %v", string(b), again, f)
			}
		}
	}
	if accepted < 1000 {
		t.Error("only", accepted, "changed texts are accepted")
	}
}
