package section_test

import (
	"math"
	"math/big"
	"math/rand"
	"sawmill/api"
	"sawmill/poly"
	"sawmill/section"
	"slices"
	"testing"
)

const most = api.MaxCross

// rows returns the section from a row on whose spans have the ends that are given in pairs.
func rows(low int, ends ...int) api.Section {
	s := api.Section{Low: low}
	for i := 0; i < len(ends); i += 2 {
		s.Rows = append(s.Rows, api.Span{A: ends[i], B: ends[i+1]})
	}
	return s
}

// block returns so many equal rows.
func block(low, count, a, b int) api.Section {
	return api.Section{Low: low, Rows: slices.Repeat([]api.Span{{A: a, B: b}}, count)}
}

// rect returns a rectangle.
func rect(a, b, c, d int) api.Rect {
	return api.Rect{X: api.Span{A: a, B: b}, Y: api.Span{A: c, B: d}}
}

func same(a, b api.Section) bool { return a.Low == b.Low && slices.Equal(a.Rows, b.Rows) }

// randomSection returns a section of few small rows, of which some between others may be empty.
func randomSection(random *rand.Rand) api.Section {
	s := api.Section{Low: random.Intn(9) - 5}
	count := 1 + random.Intn(6)
	for i := range count {
		a := random.Intn(17) - 9
		x := api.Span{A: a, B: a + 1 + random.Intn(9)}
		if i > 0 && i+1 < count && random.Intn(4) == 0 {
			x = api.Span{}
		}
		s.Rows = append(s.Rows, x)
	}
	return s
}

// small returns sections whose X are from -9 to 17 and whose rows are from -5 to 9.
func small() []api.Section {
	l := []api.Section{{}, rows(0, 0, 1), rows(-1, -1, 0), rows(0, -5, 5, -6, 6), rows(0, -5, 5, 0, 0, 1, 2), rows(-3, 5, 9, 0, 0, 0, 0, -7, 6)}
	random := rand.New(rand.NewSource(1))
	for range 60 {
		l = append(l, randomSection(random))
	}
	return l
}

// sections returns small sections, and those that reach the limits.
func sections() []api.Section {
	return append(small(), rows(0, -50, 50, -60, 60), rows(59, 3, 4), rows(-60, 3, 4), block(-60, 120, -most, most), block(-60, 120, 0, 1), block(-60, 119, most-1, most), block(-59, 119, -most, -most+1), rows(0, -most, -most+1, 0, 0, most-1, most), api.Section{Low: -60, Rows: slices.Concat(block(0, 1, 1, 2).Rows, make([]api.Span, 118), block(0, 1, 3, 4).Rows)})
}

// notSections returns sections that are not valid, with the error of each.
func notSections() ([]api.Section, []api.Errno) {
	var l []api.Section
	var codes []api.Errno
	for _, x := range []struct {
		e api.Errno
		l []api.Section
	}{
		{api.ErrLong, []api.Section{block(-60, 121, 0, 1), block(0, 121, 5, 5), block(-61, 121, most+1, 0), block(0, 100000, 0, 1), block(math.MaxInt, 121, 0, 1)}},
		{api.ErrRange, []api.Section{
			rows(60, 0, 1), rows(-61, 0, 1), block(0, 61, 0, 1), block(-59, 120, 0, 1), block(1, 60, 0, 1), block(-61, 120, 0, 1), rows(math.MaxInt, 0, 1), rows(math.MinInt, 0, 1), block(math.MaxInt-119, 120, 0, 1), {Low: 61}, {Low: -61}, {Low: math.MaxInt}, {Low: math.MinInt}, {Low: 60, Rows: make([]api.Span, 1)},
			rows(0, 10, most+1), rows(0, -most-1, 10), rows(0, most+1, most+2), rows(0, -most-2, -most-1), rows(0, math.MinInt, 0), rows(0, 0, math.MaxInt), rows(0, math.MinInt, math.MaxInt), rows(0, math.MaxInt, math.MinInt), rows(0, 0, 1, most+1, 0, 0, 1), rows(0, 0, 1, 0, -most-1, 0, 1), rows(0, 0, 1, most+1, most+1, 0, 1), rows(0, 0, 0, 700, 0), rows(0, 0, 1, 5, 5, 0, most+1),
		}},
		{api.ErrShape, []api.Section{
			{Low: 1}, {Low: -1}, {Low: 60}, {Low: -60}, {Low: 5, Rows: []api.Span{}}, rows(0, 0, 0), rows(0, 5, 5), rows(0, 7, 3), rows(0, 0, 0, 10, 20), rows(0, 10, 20, 0, 0), rows(0, 10, 20, 5, 5, 10, 20), rows(0, 10, 20, 6, 5, 10, 20), rows(0, 10, 20, 1, 0, 10, 20), rows(0, 10, 20, 0, -1, 10, 20), rows(0, 10, 20, most, most, 10, 20), rows(0, 10, 20, 10, 20, 7, 7), rows(0, most, -most, 0, 1), block(-60, 120, 0, 0),
		}},
	} {
		for _, s := range x.l {
			l, codes = append(l, s), append(codes, x.e)
		}
	}
	return l, codes
}

func TestCheck(t *testing.T) { // P10.1
	for _, s := range append(sections(), rows(0, -50, 50), rows(0, -50, 50, 0, 0, 10, 20), rows(0, -most, most), block(0, 60, 0, 1), block(-60, 60, 0, 1), block(-60, 120, 0, 1), api.Section{Rows: []api.Span{}}) {
		if e := section.Check(s); e != api.OK {
			t.Errorf("Check(%v) = %v", s, e)
		}
	}
	l, codes := notSections()
	for i, s := range l {
		if e := section.Check(s); e != codes[i] {
			t.Errorf("Check(%.200v) = %v; want %v", s, e, codes[i])
		}
	}
}

// points returns the points whose X and Y are given in pairs.
func points(numbers ...int) []api.Point {
	var l []api.Point
	for i := 0; i < len(numbers); i += 2 {
		l = append(l, api.Point{X: numbers[i], Y: numbers[i+1]})
	}
	return l
}

func TestOf(t *testing.T) { // P10.2
	for _, x := range []struct {
		p    []api.Point
		want api.Section
		e    api.Errno
	}{
		{points(-60, 0, 60, 0, 0, 60), rows(0, -50, 50, -40, 40, -30, 30, -20, 20, -10, 10), api.OK}, {points(-50, -20, 50, -20, 50, 20, -50, 20), block(-2, 4, -50, 50), api.OK}, {points(-50, 20, 50, 20, 50, -20, -50, -20), block(-2, 4, -50, 50), api.OK}, {points(-50, -25, 50, -25, 50, 25, -50, 25), block(-2, 4, -50, 50), api.OK}, {points(0, 0, 1, 0, 1, 10, 0, 10), rows(0, 0, 1), api.OK}, {points(5, -10, 9, -10, 9, 5, 5, 5), rows(-1, 5, 9), api.OK},
		{points(0, 0, 2, 0, 5, 50, 3, 50), rows(0, 1, 2, 0, 0, 2, 3, 0, 0, 3, 4), api.OK}, {points(0, 0, 80, 0, 80, 80, 40, 20, 0, 80), block(0, 8, 0, 80), api.OK}, {points(-most, -most, most, -most, most, most, -most, most), block(-60, 120, -most, most), api.OK}, {points(-most, -most, most, -most, most, -most+10, -most, -most+10), rows(-60, -most, most), api.OK}, {points(0, most-10, 3, most-10, 3, most, 0, most), rows(59, 0, 3), api.OK},
		{nil, api.Section{}, api.ErrShort}, {points(0, 0, 700, 0), api.Section{}, api.ErrShort}, {make([]api.Point, 33), api.Section{}, api.ErrLong}, {append(make([]api.Point, 32), api.Point{X: 700}), api.Section{}, api.ErrLong}, {points(0, 0, 100, 0, most+1, 100), api.Section{}, api.ErrRange}, {points(0, 0, 1, 0, 0, math.MinInt), api.Section{}, api.ErrRange}, {points(700, 0, 700, 0, 700, 0), api.Section{}, api.ErrRange}, {points(0, 0, 100, 0, 200, 0), api.Section{}, api.ErrShape}, {points(0, 0, 40, 40, 40, 0, 0, 40), api.Section{}, api.ErrShape},
		{points(0, 1, 100, 1, 100, 9, 0, 9), api.Section{}, api.ErrEmpty}, {points(0, 1, 100, 1, 100, 19, 0, 19), api.Section{}, api.ErrEmpty}, {points(0, 1, 100, 1, 100, 20, 0, 20), rows(1, 0, 100), api.OK}, {points(0, 0, 1, 0, 0, 1), api.Section{}, api.ErrEmpty}, {points(0, 0, 10, 100, 11, 100), api.Section{}, api.ErrEmpty},
	} {
		if s, e := section.Of(x.p); !same(s, x.want) || e != x.e {
			t.Errorf("Of(%v) = %v, %v; want %v, %v", x.p, s, e, x.want, x.e)
		}
	}
}

// polygons returns polygons around the origin and elsewhere, great and small, wide and slanting.
func polygons() [][]api.Point {
	var lists [][]api.Point
	random := rand.New(rand.NewSource(2))
	for i := range 400 {
		var p []api.Point
		magnitude := []int{15, 40, 150, most}[i%4]
		for range 3 + random.Intn(6) {
			x, y := random.Intn(2*magnitude+1)-magnitude, random.Intn(2*magnitude+1)-magnitude
			if i%3 == 0 {
				x = min(max(y/8+random.Intn(5), -most), most)
			}
			p = append(p, api.Point{X: x, Y: y})
		}
		if poly.Check(p) == api.OK {
			lists = append(lists, p)
		}
	}
	return lists
}

// at returns the span of a row, {0, 0} if there is none.
func at(s api.Section, r int) api.Span {
	if r < s.Low || r >= s.Low+len(s.Rows) {
		return api.Span{}
	}
	return s.Rows[r-s.Low]
}

// checkRows reports a section that is not valid, or in which the span of some row is not the one that want returns: {0, 0} stands for all that are empty.
func checkRows(t *testing.T, name string, s api.Section, want func(r int) api.Span) {
	t.Helper()
	if e := section.Check(s); e != api.OK {
		t.Errorf("%s is %v: %v", name, s, e)
	}
	for r := -70; r < 70; r++ {
		x := want(r)
		if x.A >= x.B {
			x = api.Span{}
		}
		if at(s, r) != x {
			t.Errorf("%s is %v; want %v in the row %d", name, s, x, r)
		}
	}
}

func TestRowsOfPolygons(t *testing.T) { // P10.2
	for _, p := range polygons() {
		s, e := section.Of(p)
		if (e != api.OK || len(s.Rows) == 0) && (e != api.ErrEmpty || !same(s, api.Section{})) {
			t.Errorf("Of(%v) = %v, %v", p, s, e)
		}
		checkRows(t, "a section of a polygon", s, func(r int) api.Span { return poly.Chord(p, 10*r, 10*r+10) })
	}
}

func TestInside(t *testing.T) { // P10.11
	for _, p := range polygons() {
		hull := poly.Hull(p)
		bounds := poly.Bounds(p)
		s, _ := section.Of(p)
		// holds reports whether the four corners of a row with the span from a to b are in the hull.
		holds := func(r, a, b int) bool {
			for _, q := range points(a, 10*r, b, 10*r, a, 10*r+10, b, 10*r+10) {
				if !poly.Has(hull, q) {
					return false
				}
			}
			return true
		}
		for r := -60; r < 60; r++ {
			x := at(s, r)
			if x.A < x.B && (!holds(r, x.A, x.B) || holds(r, x.A-1, x.B) || holds(r, x.A, x.B+1)) {
				t.Errorf("Of(%v) has the row %d with %v", p, r, x)
			}
			for a := bounds.X.A; x.A >= x.B && a < bounds.X.B; a++ {
				if holds(r, a, a+1) {
					t.Errorf("Of(%v) has not the row %d, in which %d to %d is inside", p, r, a, a+1)
				}
			}
		}
	}
}

// squares counts the squares of 1 mm2 of a small section that are in a rectangle.
func squares(s api.Section, r api.Rect) int {
	count := 0
	for y := max(r.Y.A, -60); y < min(r.Y.B, 110); y++ {
		x := at(s, (y+100)/10-10)
		for n := max(r.X.A, -10); n < min(r.X.B, 20); n++ {
			if x.A <= n && n < x.B {
				count++
			}
		}
	}
	return count
}

func all() api.Rect { return rect(-most, most, -most, most) }

func TestArea(t *testing.T) { // P10.3
	for _, x := range []struct {
		s    api.Section
		want int
	}{
		{rows(0, -50, 50, -60, 60), 2200}, {api.Section{}, 0}, {block(-2, 4, -50, 50), 4000}, {rows(0, -50, 50, 0, 0, 10, 20), 1100}, {rows(59, 0, 1), 10}, {block(-60, 120, -most, most), 4 * most * most},
	} {
		if n := section.Area(x.s); n != x.want {
			t.Errorf("Area(%v) = %d; want %d", x.s, n, x.want)
		}
	}
	for _, s := range small() {
		if n := section.Area(s); n != squares(s, all()) {
			t.Errorf("Area(%v) = %d; want %d", s, n, squares(s, all()))
		}
	}
}

func TestWithin(t *testing.T) { // P10.4
	s := rows(0, -50, 50, -60, 60)
	for _, x := range []struct {
		r    api.Rect
		want int
	}{
		{rect(0, 100, 5, 15), 550}, {all(), 2200}, {rect(-55, -50, 0, 20), 50}, {rect(-55, -50, 0, 10), 0}, {rect(0, 1, 9, 11), 2}, {rect(0, 1, 0, 1), 1}, {rect(-60, 60, 0, 20), 2200}, {rect(-60, 60, 19, 20), 120}, {rect(-60, 60, 20, 21), 0}, {rect(-60, 60, -1, 0), 0}, {rect(-60, 60, 10, 10), 0}, {rect(-60, 60, 15, 5), 0}, {rect(10, 10, 0, 20), 0}, {rect(20, 10, 0, 20), 0}, {rect(20, 10, 20, 0), 0}, {rect(60, 70, 0, 20), 0}, {api.Rect{}, 0},
		{rect(math.MinInt, math.MaxInt, math.MinInt, math.MaxInt), 2200}, {rect(math.MinInt, 0, 10, math.MaxInt), 600}, {rect(math.MaxInt, math.MinInt, 0, 20), 0}, {rect(-60, 60, math.MaxInt, math.MinInt), 0}, {rect(math.MinInt, math.MinInt, 0, 20), 0}, {rect(math.MaxInt, math.MaxInt, math.MaxInt, math.MaxInt), 0}, {rect(0, 1<<32, -1<<32, 15), 800},
	} {
		if n := section.Within(s, x.r); n != x.want {
			t.Errorf("Within %v: %d; want %d", x.r, n, x.want)
		}
	}
	if n := section.Within(block(-60, 120, -most, most), all()); n != 4*most*most {
		t.Error("Within of the greatest section:", n)
	}
	random := rand.New(rand.NewSource(3))
	for _, s := range small() {
		for range 40 {
			r := rect(random.Intn(30)-12, random.Intn(30)-12, random.Intn(170)-60, random.Intn(170)-60)
			if n := section.Within(s, r); n != squares(s, r) {
				t.Errorf("Within(%v, %v) = %d; want %d", s, r, n, squares(s, r))
			}
		}
	}
}

func TestAreasAddUp(t *testing.T) { // P10.12
	random := rand.New(rand.NewSource(4))
	all := sections()
	for i, s := range all {
		if n := section.Within(s, section.Bounds(s)); n != section.Area(s) {
			t.Errorf("Within of the bounds of %v is %d, not %d", s, n, section.Area(s))
		}
		other := all[(7*i+3)%len(all)]
		both := section.Meet(s, other)
		for range 20 {
			x, y := []int{random.Intn(40) - 15, random.Intn(40) - 15, random.Intn(1301) - 650}, []int{random.Intn(200) - 80, random.Intn(200) - 80, random.Intn(1301) - 650}
			slices.Sort(x)
			slices.Sort(y)
			part := func(i, k, m, n int) int { return section.Within(s, rect(x[i], x[k], y[m], y[n])) }
			whole := part(0, 2, 0, 2)
			if part(0, 1, 0, 2)+part(1, 2, 0, 2) != whole || part(0, 2, 0, 1)+part(0, 2, 1, 2) != whole || part(0, 1, 0, 1)+part(0, 1, 1, 2)+part(1, 2, 0, 1)+part(1, 2, 1, 2) != whole {
				t.Errorf("parts of %v at %v and %v do not add up to %d", s, x, y, whole)
			}
			r := rect(x[0], x[2], y[0], y[2])
			if n := section.Within(both, r); n > whole || n > section.Within(other, r) {
				t.Errorf("Meet of %v and %v has %d in %v", s, other, n, r)
			}
		}
	}
}

func TestMeet(t *testing.T) { // P10.5
	s := rows(0, -50, 50, -60, 60)
	for _, x := range []struct{ a, b, want api.Section }{
		{s, rows(1, 0, 100), rows(1, 0, 60)}, {s, rows(0, 55, 60), api.Section{}}, {s, rows(0, 50, 60), api.Section{}}, {s, s, s}, {s, api.Section{}, api.Section{}}, {api.Section{}, api.Section{}, api.Section{}}, {s, rows(2, -50, 50), api.Section{}}, {s, rows(-1, -50, 50), api.Section{}}, {s, rows(-50, -5, 5), api.Section{}}, {s, rows(-1, 0, 5, 0, 0, 0, 5, 0, 5), rows(1, 0, 5)}, {s, rows(-1, 0, 5, 0, 5, 0, 0, 0, 5), rows(0, 0, 5)},
		{rows(0, 0, 9, 0, 9, 0, 9), rows(0, 0, 9, 20, 29, 0, 9), rows(0, 0, 9, 0, 0, 0, 9)}, {rows(0, 0, 9, 0, 9, 0, 9), rows(0, 20, 29, 3, 5, 20, 29), rows(1, 3, 5)}, {rows(0, 0, 9, 0, 9, 0, 9), rows(0, 20, 29, 20, 29, 8, 29), rows(2, 8, 9)}, {rows(0, 0, 9, 0, 0, 0, 9), rows(1, 0, 9), api.Section{}}, {block(-60, 120, -most, most), rows(59, -3, 3), rows(59, -3, 3)}, {rows(-60, 0, 9), rows(59, 0, 9), api.Section{}},
	} {
		if m := section.Meet(x.a, x.b); !same(m, x.want) {
			t.Errorf("Meet(%v, %v) = %v; want %v", x.a, x.b, m, x.want)
		}
	}
	for _, a := range sections() {
		for _, b := range sections() {
			checkRows(t, "a common part", section.Meet(a, b), func(r int) api.Span {
				return api.Span{A: max(at(a, r).A, at(b, r).A), B: min(at(a, r).B, at(b, r).B)}
			})
		}
	}
}

func TestBounds(t *testing.T) { // P10.6
	for _, x := range []struct {
		s    api.Section
		want api.Rect
	}{
		{rows(0, -50, 50, -60, 60), rect(-60, 60, 0, 20)}, {rows(-3, 5, 10, 0, 0, -7, 6), rect(-7, 10, -30, 0)}, {rows(-3, 5, 10, 0, 0, 7, 8), rect(5, 10, -30, 0)}, {rows(2, -9, -5, 0, 0, -8, -3), rect(-9, -3, 20, 50)}, {api.Section{}, api.Rect{}}, {rows(59, most-1, most), rect(most-1, most, most-10, most)}, {rows(-60, -most, 1-most), rect(-most, 1-most, -most, 10-most)}, {block(-60, 120, -most, most), all()},
	} {
		if r := section.Bounds(x.s); r != x.want {
			t.Errorf("Bounds(%v) = %v; want %v", x.s, r, x.want)
		}
	}
	for _, s := range small() {
		if len(s.Rows) == 0 {
			continue
		}
		r := section.Bounds(s)
		area := squares(s, all())
		if r.Y != (api.Span{A: 10 * s.Low, B: 10 * (s.Low + len(s.Rows))}) || squares(s, r) != area || squares(s, rect(r.X.A+1, r.X.B, r.Y.A, r.Y.B)) == area || squares(s, rect(r.X.A, r.X.B-1, r.Y.A, r.Y.B)) == area {
			t.Errorf("Bounds(%v) = %v", s, r)
		}
	}
}

// exact reports whether n and d add up to a number from low to high, and returns it.
func exact(n, d, low, high int) (int, bool) {
	sum := new(big.Int).Add(big.NewInt(int64(n)), big.NewInt(int64(d)))
	if sum.Cmp(big.NewInt(int64(low))) < 0 || sum.Cmp(big.NewInt(int64(high))) > 0 {
		return 0, false
	}
	return int(sum.Int64()), true
}

// shift moves every row, and returns the empty section if something does not remain in range.
func shift(s api.Section, dx, rows int) api.Section {
	low, ok := exact(s.Low, rows, -60, 60-len(s.Rows))
	if !ok || len(s.Rows) == 0 {
		return api.Section{}
	}
	moved := api.Section{Low: low}
	for _, x := range s.Rows {
		if x.A >= x.B {
			moved.Rows = append(moved.Rows, api.Span{})
			continue
		}
		a, okA := exact(x.A, dx, -most, most)
		b, okB := exact(x.B, dx, -most, most)
		if !okA || !okB {
			return api.Section{}
		}
		moved.Rows = append(moved.Rows, api.Span{A: a, B: b})
	}
	return moved
}

// steps returns distances at both ends of an int, around the limits, and small ones.
func steps() []int {
	return []int{math.MinInt, math.MinInt + 1, math.MinInt + 60, math.MinInt + most, -1 << 62, -1 << 32, -1201, -1200, -1199, -601, -600, -599, -541, -540, -121, -120, -119, -118, -61, -60, -59, -7, -1, 0, 1, 2, 58, 59, 60, 61, 118, 119, 120, 121, 540, 541, 599, 600, 601, 1199, 1200, 1201, 1 << 32, 1 << 62, math.MaxInt - most, math.MaxInt - 60, math.MaxInt - 1, math.MaxInt}
}

func TestShift(t *testing.T) { // P10.7
	s := rows(0, -50, 50, -60, 60)
	for _, x := range []struct {
		s        api.Section
		dx, rows int
		want     api.Section
	}{
		{s, 10, -3, rows(-3, -40, 60, -50, 70)}, {s, 0, 0, s}, {s, 541, 0, api.Section{}}, {s, 540, 0, rows(0, 490, 590, 480, 600)}, {s, -540, 0, rows(0, -590, -490, -600, -480)}, {s, -541, 0, api.Section{}}, {s, 0, 59, api.Section{}}, {s, 0, 58, rows(58, -50, 50, -60, 60)}, {s, 0, -60, rows(-60, -50, 50, -60, 60)}, {s, 0, -61, api.Section{}}, {s, 541, 59, api.Section{}},
		{rows(0, 1, 2, 0, 0, 1, 2), 5, 0, rows(0, 6, 7, 0, 0, 6, 7)}, {rows(-60, -most, 1-most), 1199, 119, rows(59, most-1, most)}, {rows(59, most-1, most), -1199, -119, rows(-60, -most, 1-most)}, {rows(-60, -most, 1-most), 1200, 0, api.Section{}}, {rows(-60, -most, 1-most), 0, 120, api.Section{}}, {api.Section{}, 0, 0, api.Section{}}, {api.Section{}, 1, 1, api.Section{}}, {api.Section{}, math.MinInt, math.MaxInt, api.Section{}},
		{s, math.MinInt, math.MaxInt, api.Section{}}, {s, math.MaxInt, 0, api.Section{}}, {s, 0, math.MinInt, api.Section{}}, {rows(0, 1, 2), math.MaxInt, 0, api.Section{}}, {rows(0, -2, -1), math.MinInt, 0, api.Section{}}, {rows(1, 1, 2), 0, math.MaxInt, api.Section{}},
	} {
		if moved := section.Shift(x.s, x.dx, x.rows); !same(moved, x.want) {
			t.Errorf("Shift(%v, %d, %d) = %v; want %v", x.s, x.dx, x.rows, moved, x.want)
		}
	}
	for _, s := range sections() {
		for _, dx := range steps() {
			for _, up := range steps() {
				if moved, want := section.Shift(s, dx, up), shift(s, dx, up); !same(moved, want) {
					t.Errorf("Shift(%v, %d, %d) = %v; want %v", s, dx, up, moved, want)
				}
			}
		}
	}
}

func TestMirrorAndFlip(t *testing.T) { // P10.8, P10.9
	s := rows(0, -50, 50, -60, 60)
	for _, x := range []struct{ s, mirrored, flipped api.Section }{
		{s, s, rows(-2, -60, 60, -50, 50)}, {rows(2, -5, 10, 0, 0, 3, 4), rows(2, -10, 5, 0, 0, -4, -3), rows(-5, 3, 4, 0, 0, -5, 10)}, {rows(-5, 1, 2), rows(-5, -2, -1), rows(4, 1, 2)}, {rows(0, 0, 1), rows(0, -1, 0), rows(-1, 0, 1)}, {rows(-1, 0, 1, 2, 3), rows(-1, -1, 0, -3, -2), rows(-1, 2, 3, 0, 1)}, {api.Section{}, api.Section{}, api.Section{}}, {rows(59, most-1, most), rows(59, -most, 1-most), rows(-60, most-1, most)}, {rows(-60, -most, 1), rows(-60, -1, most), rows(59, -most, 1)}, {block(-60, 120, -most, 7), block(-60, 120, -7, most), block(-60, 120, -most, 7)},
	} {
		if m := section.Mirror(x.s); !same(m, x.mirrored) {
			t.Errorf("Mirror(%v) = %v; want %v", x.s, m, x.mirrored)
		}
		if f := section.Flip(x.s); !same(f, x.flipped) {
			t.Errorf("Flip(%v) = %v; want %v", x.s, f, x.flipped)
		}
	}
	for _, s := range sections() {
		checkRows(t, "a reflection to the left", section.Mirror(s), func(r int) api.Span { return api.Span{A: -at(s, r).B, B: -at(s, r).A} })
		checkRows(t, "a reflection downward", section.Flip(s), func(r int) api.Span { return at(s, -r-1) })
	}
}

func TestEqual(t *testing.T) { // P10.10
	s := rows(0, -50, 50, -60, 60)
	for _, x := range []struct {
		a, b api.Section
		want bool
	}{
		{s, rows(0, -50, 50, -60, 60), true}, {s, rows(1, -50, 50, -60, 60), false}, {s, rows(0, -50, 50), false}, {s, rows(0, -50, 50, -60, 61), false}, {s, rows(0, -49, 50, -60, 60), false}, {s, rows(0, -60, 60, -50, 50), false}, {s, api.Section{}, false}, {api.Section{}, api.Section{Rows: []api.Span{}}, true}, {rows(0, 5, 5), api.Section{}, true}, {rows(0, 5, 5), block(0, 61, 0, 1), true}, {rows(0, 5, 5), s, false}, {rows(60, -50, 50), rows(61, -50, 50), true},
	} {
		if section.Equal(x.a, x.b) != x.want || section.Equal(x.b, x.a) != x.want {
			t.Errorf("Equal(%v, %v) is not %v", x.a, x.b, x.want)
		}
	}
	all := sections()
	for i, a := range all {
		for _, b := range all[:i+1] {
			if section.Equal(a, b) != same(a, b) || section.Equal(b, a) != same(a, b) {
				t.Errorf("Equal(%v, %v) is not %v", a, b, same(a, b))
			}
		}
	}
}

func TestNotValid(t *testing.T) { // P10.3 to P10.10
	l, _ := notSections()
	full := block(-60, 120, -most, most)
	for _, s := range l {
		if section.Area(s) != 0 || section.Within(s, all()) != 0 || section.Within(s, rect(math.MinInt, math.MaxInt, math.MinInt, math.MaxInt)) != 0 || section.Bounds(s) != (api.Rect{}) {
			t.Errorf("%.200v has an area", s)
		}
		for i, result := range []api.Section{section.Meet(s, full), section.Meet(full, s), section.Meet(s, s), section.Shift(s, 0, 0), section.Shift(s, 1, -1), section.Shift(s, 0, -s.Low), section.Mirror(s), section.Flip(s)} {
			if !same(result, api.Section{}) {
				t.Errorf("%d: %.200v gives %v", i, s, result)
			}
		}
		if !section.Equal(s, api.Section{}) || !section.Equal(api.Section{}, s) || !section.Equal(s, s) || section.Equal(s, full) || section.Equal(full, s) {
			t.Errorf("%.200v is not equal to the empty section", s)
		}
	}
}

func TestSymmetry(t *testing.T) { // P10.13
	all := sections()
	for i, s := range all {
		mirrored, flipped := section.Mirror(s), section.Flip(s)
		if section.Area(mirrored) != section.Area(s) || section.Area(flipped) != section.Area(s) {
			t.Errorf("reflections of %v have other areas: %v, %v", s, mirrored, flipped)
		}
		if !same(section.Mirror(mirrored), s) || !same(section.Flip(flipped), s) || !same(section.Mirror(flipped), section.Flip(mirrored)) {
			t.Errorf("reflections of %v do not invert themselves", s)
		}
		if !same(section.Meet(s, s), s) {
			t.Errorf("Meet of %v with itself is %v", s, section.Meet(s, s))
		}
		for _, b := range all[:i+1] {
			if !same(section.Meet(s, b), section.Meet(b, s)) {
				t.Errorf("Meet of %v and %v depends on their order", s, b)
			}
		}
		for _, d := range steps() {
			for _, up := range []int{-60, -3, 0, 4, 50} {
				moved := section.Shift(s, d, up)
				if len(moved.Rows) > 0 && !same(section.Shift(moved, -d, -up), s) {
					t.Errorf("Shift of %v by %d, %d and back is %v", s, d, up, section.Shift(moved, -d, -up))
				}
			}
		}
	}
}

func TestArgumentsStay(t *testing.T) { // R3
	for _, s := range []api.Section{rows(-1, -50, 50, 0, 0, -60, 60), block(-1, 2, 0, 5), rows(0, 5, 5)} {
		// The spare capacity behind the rows belongs to the caller, too.
		whole := append(slices.Clone(s.Rows), api.Span{A: 7, B: 8}, api.Span{A: 8, B: 9})
		before := slices.Clone(whole)
		s.Rows = whole[:len(s.Rows)]
		results := func() []api.Section {
			section.Check(s)
			section.Area(s)
			section.Within(s, all())
			section.Bounds(s)
			section.Equal(s, s)
			return []api.Section{section.Meet(s, s), section.Meet(s, block(-60, 120, -most, most)), section.Shift(s, 0, 0), section.Shift(s, 1, 1), section.Mirror(s), section.Flip(s), section.Mirror(section.Mirror(s)), section.Flip(section.Flip(s))}
		}
		first, second := results(), results()
		for _, result := range first {
			for i := range result.Rows {
				result.Rows[i] = api.Span{A: -1, B: -2}
			}
		}
		if !slices.Equal(whole, before) {
			t.Errorf("%v became %v", before, whole)
		}
		for i, result := range results() {
			if !same(result, second[i]) {
				t.Errorf("result %d of %v became %v", i, second[i], result)
			}
		}
	}
}
