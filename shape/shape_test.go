package shape_test

import (
	"fmt"
	"math"
	"math/big"
	"math/rand"
	"sawmill/api"
	"sawmill/section"
	"sawmill/shape"
	"sawmill/solid"
	"slices"
	"testing"
)

const most = api.MaxCross

// fail reports an error, with long arguments cut short.
func fail(t *testing.T, format string, args ...any) {
	t.Helper()
	for i, x := range args {
		if s := fmt.Sprint(x); len(s) > 300 {
			args[i] = s[:300] + ".."
		}
	}
	t.Errorf(format, args...)
}

// rows returns the section from a row on whose spans have the ends that are given in pairs.
func rows(low int, ends ...int) api.Section {
	s := api.Section{Low: low}
	for i := 0; i < len(ends); i += 2 {
		s.Rows = append(s.Rows, api.Span{A: ends[i], B: ends[i+1]})
	}
	return s
}

// block returns so many equal rows.
func block(low, count, a, b int) api.Section {
	return api.Section{Low: low, Rows: slices.Repeat([]api.Span{{A: a, B: b}}, count)}
}

// butt and top return the sections of the solid of chapter 11, and example that solid.
func butt() api.Section { return rows(0, -50, 50, -60, 60) }

func top() api.Section { return rows(0, -50, 50) }

func example() []api.Slice { return logOf(2000, butt(), 1000, top()) }

// logOf returns slices whose lengths and sections are given in turn.
func logOf(parts ...any) []api.Slice {
	var l []api.Slice
	for i := 0; i < len(parts); i += 2 {
		l = append(l, api.Slice{Len: parts[i].(int), Sec: parts[i+1].(api.Section)})
	}
	return l
}

// randomSection returns a section whose rows lie between two X, some of them empty.
func randomSection(random *rand.Rand) api.Section {
	reach := []int{3, 100, most}[random.Intn(3)]
	count := 1 + random.Intn(min(reach, 120))
	s := api.Section{Low: random.Intn(121-count) - 60}
	for i := range count {
		a := random.Intn(2*reach) - reach
		x := api.Span{A: a, B: a + 1 + random.Intn(reach-a)}
		if i > 0 && i+1 < count && random.Intn(5) == 0 {
			x = api.Span{}
		}
		s.Rows = append(s.Rows, x)
	}
	return s
}

// sections returns sections, among them those that reach the limits.
func sections() []api.Section {
	l := []api.Section{{}, butt(), top(), block(-60, 120, -most, most), block(-60, 120, most-1, most), block(-60, 1, -most, 1-most), block(59, 1, -most, most), rows(0, 0, 1), rows(-3, 5, 9, 0, 0, 0, 0, -7, 6)}
	random := rand.New(rand.NewSource(1))
	for range 200 {
		l = append(l, randomSection(random))
	}
	return l
}

// notSections returns sections that are not valid.
func notSections() []api.Section {
	return []api.Section{{Low: 5}, {Low: -60}, {Low: math.MinInt}, block(-60, 121, -50, 50), block(0, 100000, 0, 1), rows(0, -50, most+1), rows(0, -most-1, 50), rows(0, math.MinInt, math.MaxInt), rows(60, -50, 50), rows(-61, -50, 50), rows(math.MaxInt, -50, 50), rows(0, 5, 5), rows(0, 50, -50), rows(0, 0, 0, -50, 50), rows(0, -50, 50, 0, 0), rows(0, -50, 50, 5, 5, -50, 50)}
}

// solids returns solids, among them those that reach the limits.
func solids() [][]api.Slice {
	l := [][]api.Slice{example(), logOf(1, top()), logOf(api.MaxLength, butt()), logOf(1, block(-60, 1, -most, 1-most), api.MaxLength-2, block(-60, 120, -most, most), 1, block(59, 1, most-1, most))}
	random := rand.New(rand.NewSource(2))
	for range 300 {
		var s []api.Slice
		longest := []int{2, 50, api.MaxLength / 24}[random.Intn(3)]
		for range 1 + random.Intn(24) {
			s = append(s, api.Slice{Len: 1 + random.Intn(longest), Sec: randomSection(random)})
		}
		l = append(l, s)
	}
	return l
}

// notSolids returns lists that are not solids, with great sections that are not in line.
func notSolids() [][]api.Slice {
	a, b := api.Slice{Len: 10, Sec: block(0, 20, -200, 200)}, api.Slice{Len: 10, Sec: block(0, 2, -5, 9)}
	l := [][]api.Slice{nil, {}, slices.Repeat([]api.Slice{a, b, b, b, b}, 5), logOf(0, a.Sec, 5, b.Sec, 5, b.Sec), logOf(5, a.Sec, 0, b.Sec, 5, b.Sec), logOf(5, a.Sec, 5, a.Sec, 0, b.Sec), logOf(5, a.Sec, -1, a.Sec, 5, b.Sec), logOf(10000, a.Sec, 5000, a.Sec, 5001, b.Sec), logOf(math.MaxInt, a.Sec, 5, a.Sec, 5, b.Sec), logOf(math.MinInt, a.Sec, 5, a.Sec, 5, b.Sec), {a, {Len: 5}, b}, {{Len: 5}, a, b}, {a, b, {Len: 5}}}
	for _, s := range notSections() {
		l = append(l, logOf(5, a.Sec, 5, s, 5, b.Sec), logOf(5, s, 5, a.Sec, 5, b.Sec), logOf(5, a.Sec, 5, a.Sec, 5, s), logOf(5, s))
	}
	return l
}

func TestDiameter(t *testing.T) { // P14.1
	for _, x := range []struct {
		s    api.Section
		want int
	}{
		{butt(), 52}, {top(), 35}, {api.Section{}, 0}, {rows(0, 0, 1), 3}, {rows(0, -50, 50, 0, 0, 5, 25), 39}, {block(-60, 120, -most, most), 1354}, {block(-10, 20, -100, 100), 225}, {block(-2, 4, -50, 50), 71},
	} {
		if d := shape.Diameter(x.s); d != x.want {
			fail(t, "Diameter(%v) = %d; want %d", x.s, d, x.want)
		}
	}
	for _, s := range notSections() {
		if d := shape.Diameter(s); d != 0 {
			fail(t, "Diameter(%v) = %d", s, d)
		}
	}
}

// sized returns a section with so many unit columns of a row.
func sized(columns int) api.Section {
	s := block(-60, columns/1200, -most, most)
	if rest := columns % 1200; rest > 0 {
		s.Rows = append(s.Rows, api.Span{A: -most, B: rest - most})
	}
	if len(s.Rows) == 0 {
		s.Low = 0
	}
	return s
}

func TestEveryDiameter(t *testing.T) { // P14.1, P14.7
	for d := 1; d <= 1354; d++ {
		// So many columns, 10 mm2 each, are needed for 452 * area >= 355 * d * d.
		columns := (355*d*d + 4519) / 4520
		if n := shape.Diameter(sized(columns)); n < d {
			fail(t, "the diameter of %d mm2 is %d, not at least %d", 10*columns, n, d)
		}
		if n := shape.Diameter(sized(columns - 1)); n >= d {
			fail(t, "the diameter of %d mm2 is %d, not less than %d", 10*(columns-1), n, d)
		}
	}
}

func TestAreas(t *testing.T) { // P14.7
	l := sections()
	for i, s := range l {
		area, d := section.Area(s), shape.Diameter(s)
		if 355*d*d > 452*area || 355*(d+1)*(d+1) <= 452*area {
			fail(t, "the diameter of %d mm2 is %d", area, d)
		}
		if part := section.Meet(s, l[(i+5)%len(l)]); shape.Diameter(part) > d {
			fail(t, "%v lies in %v, but has the diameter %d", part, s, shape.Diameter(part))
		}
	}
}

func TestTop(t *testing.T) { // P14.2
	for _, x := range []struct {
		l    []api.Slice
		want int
	}{
		{example(), 35}, {logOf(1000, top(), 2000, butt()), 52}, {logOf(7, butt()), 52}, {logOf(7, butt(), 7, block(-60, 120, -most, most), 7, top()), 35},
	} {
		if d := shape.Top(x.l); d != x.want {
			fail(t, "Top(%v) = %d; want %d", x.l, d, x.want)
		}
	}
	for _, l := range solids() {
		if d, want := shape.Top(l), shape.Diameter(l[len(l)-1].Sec); d != want {
			fail(t, "Top(%v) = %d; want %d", l, d, want)
		}
	}
}

func TestNotSolids(t *testing.T) { // P14.2, P14.4, P14.5
	for _, l := range notSolids() {
		if shape.Top(l) != 0 || shape.Sweep(l) != 0 || shape.Taper(l) != 0 {
			fail(t, "%v has the measures %d, %d, %d", l, shape.Top(l), shape.Sweep(l), shape.Taper(l))
		}
	}
}

func TestCenterAndOval(t *testing.T) { // P14.3, P14.6
	for _, x := range []struct {
		s      api.Section
		center api.Point
		oval   int
	}{
		{butt(), api.Point{Y: 20}, 100}, {top(), api.Point{Y: 10}, 90}, {api.Section{}, api.Point{}, 0}, {rows(-1, 0, 1), api.Point{X: 1, Y: -10}, -9}, {rows(5, 20, 30, 40, 45), api.Point{X: 65, Y: 120}, 5}, {block(-60, 120, -most, most), api.Point{}, 0}, {block(-60, 120, most-1, most), api.Point{X: 1199}, -1199}, {block(-60, 1, -most, most), api.Point{Y: -1190}, 1190}, {rows(-3, 5, 9, 0, 0, 0, 0, -7, 6), api.Point{X: 2, Y: -20}, -24},
		// The empty rows between others have no place of their own.
		{rows(4, 50, 60, 0, 0, 40, 70), api.Point{X: 110, Y: 110}, 0},
	} {
		if c, n := shape.Center2(x.s), shape.Oval(x.s); c != x.center || n != x.oval {
			fail(t, "%v has %v and %d; want %v and %d", x.s, c, n, x.center, x.oval)
		}
	}
	for _, s := range notSections() {
		if c, n := shape.Center2(s), shape.Oval(s); c != (api.Point{}) || n != 0 {
			fail(t, "%v has %v and %d", s, c, n)
		}
	}
	for _, s := range sections()[1:] {
		var ends []int
		for _, x := range s.Rows {
			if x.A < x.B {
				ends = append(ends, x.A, x.B)
			}
		}
		left, right, height := slices.Min(ends), slices.Max(ends), 10*len(s.Rows)
		if c, n := shape.Center2(s), shape.Oval(s); c != (api.Point{X: left + right, Y: 20*s.Low + height}) || n != right-left-height {
			fail(t, "%v has %v and %d", s, c, n)
		}
	}
}

func TestSweep(t *testing.T) { // P14.4
	middle := rows(0, -40, 60)
	for i, x := range []struct {
		l    []api.Slice
		want int
	}{
		{logOf(1000, top(), 1000, middle, 1000, top()), 20}, {logOf(1000, top(), 1000, rows(0, -60, 40), 1000, top()), 20}, {logOf(1000, rows(3, -50, 50), 1000, middle, 1000, top()), 30}, {logOf(1000, top(), 1000, rows(1, -50, 50), 1000, top()), 20}, {logOf(1000, top(), 1000, rows(-2, -50, 51), 1000, top()), 40}, {logOf(1000, top(), 1000, rows(-2, 0, 50), 1000, top()), 50},
		{example(), 0}, {logOf(5, top()), 0}, {logOf(5, rows(9, 3, 4)), 0}, {logOf(1, top(), 19999, rows(-9, 5, 9)), 0}, {logOf(1000, top(), 1000, rows(2, -40, 60), 1000, rows(4, -30, 70)), 0},
		// The axis is rounded down, also where it falls.
		{logOf(10, top(), 10, top(), 10, rows(0, -51, 50)), 1}, {logOf(10, top(), 10, rows(0, -51, 50), 10, rows(0, -51, 50)), 0}, {logOf(10, top(), 10, top(), 10, rows(0, -50, 51)), 0}, {logOf(10, top(), 10, rows(0, -50, 51), 10, rows(0, -50, 51)), 1},
		// The doubled middles are 1000, 5000 and 10000: at the second one the axis is at 4/9 of the way.
		{logOf(1000, top(), 3000, top(), 2000, rows(0, 40, 140)), 80}, {logOf(1000, top(), 3000, rows(0, -10, 90), 2000, rows(0, 40, 140)), 0}, {logOf(1000, top(), 3000, top(), 2000, rows(9, -50, 50)), 80}, {logOf(2000, top(), 3000, top(), 1000, rows(0, 40, 140)), 100},
		// The greatest one counts, wherever it is.
		{logOf(5, top(), 5, rows(0, -49, 50), 5, rows(0, -40, 50), 5, rows(0, -45, 50), 5, top()), 10}, {logOf(5, top(), 5, rows(0, -60, 50), 5, rows(0, -45, 50), 5, rows(2, -50, 50), 5, top()), 40}, {logOf(1, block(-60, 1, -most, 1-most), 1, block(59, 1, most-1, most), 1, block(-60, 1, -most, 1-most)), 2398},
	} {
		if n := shape.Sweep(x.l); n != x.want {
			fail(t, "%d: Sweep(%v) = %d; want %d", i, x.l, n, x.want)
		}
	}
}

// axis returns the number at m on the way from a at s to b at t, rounded down.
func axis(a, b, m, s, t int) int {
	way := new(big.Int).Mul(big.NewInt(int64(b-a)), big.NewInt(int64(m-s)))
	// Div rounds down for a positive divisor.
	return a + int(way.Div(way, big.NewInt(int64(t-s))).Int64())
}

// sweep computes the sweep of a solid with more than one slice.
func sweep(l []api.Slice) int {
	middle2 := func(i int) int { return 2*solid.Length(l[:i]) + l[i].Len }
	last := len(l) - 1
	a, b := shape.Center2(l[0].Sec), shape.Center2(l[last].Sec)
	greatest := 0.0
	for i := 1; i < last; i++ {
		c, m := shape.Center2(l[i].Sec), middle2(i)
		x, y := axis(a.X, b.X, m, middle2(0), middle2(last)), axis(a.Y, b.Y, m, middle2(0), middle2(last))
		greatest = max(greatest, math.Abs(float64(c.X-x)), math.Abs(float64(c.Y-y)))
	}
	return int(greatest)
}

func TestSweeps(t *testing.T) { // P14.4
	for _, l := range solids() {
		want := 0
		if len(l) > 2 {
			want = sweep(l)
		}
		if n := shape.Sweep(l); n != want {
			fail(t, "Sweep(%v) = %d; want %d", l, n, want)
		}
	}
}

func TestTaper(t *testing.T) { // P14.5
	full, one := block(-60, 120, -most, most), rows(0, 0, 1)
	for _, x := range []struct {
		l    []api.Slice
		want int
	}{
		{example(), 56}, {logOf(1000, top(), 2000, butt()), 0}, {logOf(10000, butt(), 10000, top()), 8}, {logOf(9999, butt(), 1, top()), 17}, {logOf(1, butt(), 1, top()), 85000}, {logOf(1, full, 1, one), 6755000}, {logOf(10001, butt()), 0}, {logOf(1, one, 1, full), 0}, {logOf(19999, one, 1, full), 0}, {logOf(500, top(), 500, full, 500, top()), 0}, {logOf(500, butt(), 500, full, 500, top()), 113},
	} {
		if n := shape.Taper(x.l); n != x.want {
			fail(t, "Taper(%v) = %d; want %d", x.l, n, x.want)
		}
	}
	for _, l := range solids() {
		loss, length := shape.Diameter(l[0].Sec)-shape.Diameter(l[len(l)-1].Sec), solid.Length(l)
		n := shape.Taper(l)
		if loss < 0 && n != 0 || loss >= 0 && (n*length > loss*10000 || (n+1)*length <= loss*10000) {
			fail(t, "Taper(%v) = %d", l, n)
		}
	}
}

func TestMotion(t *testing.T) { // P14.8
	random := rand.New(rand.NewSource(3))
	for _, s := range sections() {
		d, oval, center := shape.Diameter(s), shape.Oval(s), shape.Center2(s)
		for range 20 {
			dx, up := random.Intn(41)-20, random.Intn(11)-5
			moved := section.Shift(s, dx, up)
			if len(moved.Rows) == 0 {
				continue
			}
			want := api.Point{X: center.X + 2*dx, Y: center.Y + 2*10*up}
			if shape.Diameter(moved) != d || shape.Oval(moved) != oval || shape.Center2(moved) != want {
				fail(t, "%v, moved by %d and %d rows, has other measures", s, dx, up)
			}
		}
		mirrored, flipped := section.Mirror(s), section.Flip(s)
		if shape.Diameter(mirrored) != d || shape.Oval(mirrored) != oval || shape.Center2(mirrored) != (api.Point{X: -center.X, Y: center.Y}) {
			fail(t, "%v, mirrored, has other measures", s)
		}
		if shape.Diameter(flipped) != d || shape.Oval(flipped) != oval || shape.Center2(flipped) != (api.Point{X: center.X, Y: -center.Y}) {
			fail(t, "%v, flipped, has other measures", s)
		}
	}
}

func TestStraightLogs(t *testing.T) { // P14.9
	random := rand.New(rand.NewSource(4))
	for _, s := range sections()[1:] {
		var l []api.Slice
		for range 1 + random.Intn(24) {
			l = append(l, api.Slice{Len: 1 + random.Intn(833), Sec: s})
		}
		if shape.Sweep(l) != 0 || shape.Taper(l) != 0 || shape.Top(l) != shape.Diameter(s) {
			fail(t, "%d slices with the section %v have the sweep %d and the taper %d", len(l), s, shape.Sweep(l), shape.Taper(l))
		}
	}
	for _, l := range solids() {
		if a, b := shape.Taper(l), shape.Taper(solid.Reverse(l)); a != 0 && b != 0 {
			fail(t, "%v has the taper %d, and reversed %d", l, a, b)
		}
	}
}

func TestArgumentsStay(t *testing.T) { // R3
	l := logOf(1000, top(), 1000, rows(2, -40, 60, 0, 0, 3, 4), 1000, butt())
	shape.Top(l)
	shape.Sweep(l)
	shape.Taper(l)
	shape.Diameter(l[1].Sec)
	shape.Center2(l[1].Sec)
	shape.Oval(l[1].Sec)
	for i, s := range logOf(1000, top(), 1000, rows(2, -40, 60, 0, 0, 3, 4), 1000, butt()) {
		if l[i].Len != s.Len || !section.Equal(l[i].Sec, s.Sec) {
			fail(t, "the slice %d became %v", i, l[i])
		}
	}
}
