package poly_test

import (
	"cmp"
	"math"
	"math/rand"
	"sawmill/api"
	"sawmill/poly"
	"slices"
	"testing"
)

func compare(a, b api.Point) int { return cmp.Or(cmp.Compare(a.X, b.X), cmp.Compare(a.Y, b.Y)) }

// inOrder returns the different ones of some points, sorted.
func inOrder(p []api.Point) []api.Point {
	l := slices.Clone(p)
	slices.SortFunc(l, compare)
	return slices.Compact(l)
}

// inTriangles reports whether one of the triangles and ways between the points has q: exactly then q is in their hull.
func inTriangles(p []api.Point, q api.Point) bool {
	for i, a := range p {
		for k, b := range p[:i+1] {
			if isBetween(a, b, q) {
				return true
			}
			for _, c := range p[:k] {
				x, y, z := left(a, b, q), left(b, c, q), left(c, a, q)
				if left(a, b, c) != 0 && (min(x, y, z) >= 0 || max(x, y, z) <= 0) {
					return true
				}
			}
		}
	}
	return false
}

// corners returns those of the points that are not in the hull of the other ones, sorted; nothing if all are on one line.
func corners(p []api.Point) []api.Point {
	all := inOrder(p)
	onLine := true
	for _, q := range all {
		onLine = onLine && left(all[0], all[len(all)-1], q) == 0
	}
	if onLine {
		return nil
	}
	var l []api.Point
	for i, q := range all {
		if !inTriangles(slices.Delete(slices.Clone(all), i, i+1), q) {
			l = append(l, q)
		}
	}
	return l
}

// inside reports whether q is on or to the left of each edge of a hull.
func inside(hull []api.Point, q api.Point) bool {
	for i, a := range hull {
		if left(a, hull[(i+1)%len(hull)], q) < 0 {
			return false
		}
	}
	return len(hull) > 0
}

func TestHull(t *testing.T) { // P9.6
	for _, x := range []struct{ p, want []api.Point }{
		{points(0, 0, 2, 0, 4, 0, 1, 1, 4, 4), points(0, 0, 4, 0, 4, 4)}, {points(4, 4, 0, 4, 2, 1, 4, 0, 0, 0, 0, 2, 4, 4), points(0, 0, 4, 0, 4, 4, 0, 4)}, {points(0, 0, 10, 0, 10, 10, 0, 10, 5, 15), points(0, 0, 10, 0, 10, 10, 5, 15, 0, 10)}, {points(0, 0, 0, 3, 4, 0), points(0, 0, 4, 0, 0, 3)}, {points(3, 5, -2, 1, -2, -1, 0, 9), points(-2, -1, 3, 5, 0, 9, -2, 1)},
		{points(0, 0, 4, 4, 4, 0, 0, 4), points(0, 0, 4, 0, 4, 4, 0, 4)}, {points(0, 0, 3, 3, 1, 1, 2, 2, 3, 0), points(0, 0, 3, 0, 3, 3)}, {points(1, 1, 1, 1, 2, 1, 2, 1, 1, 2, 1, 2), points(1, 1, 2, 1, 1, 2)},
		{nil, nil}, {points(1, 2), nil}, {points(1, 2, 3, 4), nil}, {points(1, 2, 3, 4, 1, 2, 3, 4), nil}, {points(5, 5, 5, 5, 5, 5), nil}, {points(0, 0, 1, 1, 2, 2), nil}, {points(2, 2, 0, 0, 1, 1, 1, 1), nil}, {points(0, 0, 0, 5, 0, 3), nil}, {points(7, 1, 0, 1, 3, 1, 5, 1), nil}, {points(0, 0, 6, 3, 2, 1, 4, 2), nil},
		{points(most, most, -most, most, most, -most, -most, -most, 0, 0), points(-most, -most, most, -most, most, most, -most, most)}, {points(-most, -most, most, most, most, most-1), points(-most, -most, most, most-1, most, most)}, {make([]api.Point, 32), nil}, {append(make([]api.Point, 30), points(1, 0, 0, 1)...), points(0, 0, 1, 0, 0, 1)}, {append(make([]api.Point, 31), points(1, 0, 0, 1)...), nil}, {circle(33), nil}, {make([]api.Point, 100000), nil},
	} {
		if h := poly.Hull(x.p); !slices.Equal(h, x.want) {
			t.Errorf("Hull(%.200v) = %v; want %v", x.p, h, x.want)
		}
	}
	for _, p := range notInRange() {
		if h := poly.Hull(p); len(h) > 0 {
			t.Errorf("Hull(%v) = %v", p, h)
		}
	}
}

// hullLists returns lists of which many have hulls with many corners, or with several points on an edge.
func hullLists() [][]api.Point {
	lists := variedLists()
	random := rand.New(rand.NewSource(5))
	for range 1000 {
		lists = append(lists, randomPoints(random, 3+random.Intn(8), 1+random.Intn(5)))
	}
	for count := range api.MaxPoints + 1 {
		p := circle(count)
		random.Shuffle(len(p), func(i, k int) { p[i], p[k] = p[k], p[i] })
		lists = append(lists, p, circle(count))
	}
	return lists
}

func TestHullCorners(t *testing.T) { // P9.6
	for _, p := range hullLists() {
		h := poly.Hull(p)
		if want := corners(p); !slices.Equal(inOrder(h), want) || len(h) != len(want) {
			t.Errorf("Hull(%v) = %v; want the corners %v", p, h, want)
		}
		if len(h) == 0 {
			continue
		}
		if h[0] != slices.MinFunc(p, compare) {
			t.Errorf("Hull(%v) = %v does not begin with the least X", p, h)
		}
		for i, a := range h {
			b := h[(i+1)%len(h)]
			for _, q := range p {
				if left(a, b, q) < 0 {
					t.Errorf("Hull(%v) = %v: %v is to the right of the edge from %v to %v", p, h, q, a, b)
				}
			}
		}
	}
}

func TestHullsOfHulls(t *testing.T) { // P9.9
	random := rand.New(rand.NewSource(6))
	for _, p := range hullLists() {
		h := poly.Hull(p)
		if twice := poly.Hull(h); !slices.Equal(twice, h) {
			t.Errorf("Hull(%v) = %v", h, twice)
		}
		mixed := slices.Clone(p)
		random.Shuffle(len(mixed), func(i, k int) { mixed[i], mixed[k] = mixed[k], mixed[i] })
		if other := poly.Hull(mixed); !slices.Equal(other, h) {
			t.Errorf("Hull(%v) = %v, Hull(%v) = %v", p, h, mixed, other)
		}
		for i, a := range h {
			if b, c := h[(i+1)%len(h)], h[(i+2)%len(h)]; left(a, b, c) <= 0 {
				t.Errorf("Hull(%v) = %v does not turn to the left at %v", p, h, b)
			}
		}
		for _, q := range p {
			if len(h) > 0 && !poly.Has(h, q) {
				t.Errorf("Hull(%v) = %v has not %v", p, h, q)
			}
		}
		fewer := poly.Hull(p[:len(p)/2])
		for _, q := range targets(random, fewer) {
			if poly.Has(fewer, q) && !poly.Has(h, q) {
				t.Errorf("Hull(%v) has not %v, but that of half of them has", p, q)
			}
		}
	}
}

// chord looks at every X at which both heights are in the hull.
func chord(p []api.Point, low, high int) api.Span {
	h := corners(p)
	s, found := api.Span{}, false
	for x := -20; x <= 20; x++ {
		if !inTriangles(h, api.Point{X: x, Y: low}) || !inTriangles(h, api.Point{X: x, Y: high}) {
			continue
		}
		if !found {
			s.A, found = x, true
		}
		s.B = x
	}
	if low >= high || s.A >= s.B {
		return api.Span{}
	}
	return s
}

func TestChord(t *testing.T) { // P9.7
	house := points(0, 0, 10, 0, 10, 10, 0, 10, 5, 15)
	wedge := points(0, 0, 9, 0, 0, 5)
	diamond := points(0, -10, 10, 0, 0, 10, -10, 0)
	sliver := points(0, 0, 3, 20, 4, 20)
	for _, x := range []struct {
		p         []api.Point
		low, high int
		want      api.Span
	}{
		{house, 5, 12, api.Span{A: 2, B: 8}}, {house, 0, 10, api.Span{A: 0, B: 10}}, {house, 0, 11, api.Span{A: 1, B: 9}}, {house, 11, 14, api.Span{A: 4, B: 6}}, {house, 11, 15, api.Span{}}, {house, 14, 15, api.Span{}}, {house, 12, 12, api.Span{}}, {house, 12, 5, api.Span{}}, {house, -1, 5, api.Span{}}, {house, 5, 16, api.Span{}}, {house, 14, 16, api.Span{}},
		{wedge, 0, 2, api.Span{A: 0, B: 5}}, {wedge, 0, 4, api.Span{A: 0, B: 1}}, {wedge, 0, 5, api.Span{}}, {diamond, -3, 2, api.Span{A: -7, B: 7}}, {diamond, -2, 3, api.Span{A: -7, B: 7}}, {diamond, -9, 9, api.Span{A: -1, B: 1}}, {diamond, -10, 9, api.Span{}}, {diamond, -1, 0, api.Span{A: -9, B: 9}},
		{sliver, 1, 2, api.Span{}}, {sliver, 19, 20, api.Span{}}, {sliver, 18, 19, api.Span{}}, {points(-9, 0, 0, 0, 0, 5), 0, 2, api.Span{A: -5, B: 0}}, {points(-9, 0, 0, 0, -9, 5), 0, 2, api.Span{A: -9, B: -4}},
		{points(0, 0, 4, 4, 4, 0, 0, 4), 1, 3, api.Span{A: 0, B: 4}}, {points(0, 0, 1, 1, 2, 2), 0, 1, api.Span{}}, {points(0, 0, 1, 1), 0, 1, api.Span{}}, {nil, 0, 1, api.Span{}}, {points(0, 0, most+1, 0, 0, 4), 0, 1, api.Span{}}, {append(make([]api.Point, 30), house...), 0, 1, api.Span{}}, {append(make([]api.Point, 27), house...), 0, 1, api.Span{A: 0, B: 10}},
		{points(-most, -most, most, -most, most, most, -most, most), -most, most, api.Span{A: -most, B: most}}, {points(-most, -most, most, -most, most, most, -most, most), -most - 1, most, api.Span{}}, {points(-most, -most, most, -most, -most, most), -1, 0, api.Span{A: -most, B: 0}}, {points(-most, -most, most, -most+1, -most, most), -1, 0, api.Span{A: -most, B: 0}},
	} {
		if s := poly.Chord(x.p, x.low, x.high); s != x.want {
			t.Errorf("Chord(%v, %d, %d) = %v; want %v", x.p, x.low, x.high, s, x.want)
		}
	}
	for _, p := range notInRange() {
		if s := poly.Chord(p, 0, 1); s != (api.Span{}) {
			t.Errorf("Chord(%v, 0, 1) = %v", p, s)
		}
	}
}

func TestChordFarAway(t *testing.T) { // P9.7
	house := points(0, 0, 10, 0, 10, 10, 0, 10, 5, 15)
	ends := []int{math.MinInt, math.MinInt + 1, -1 << 62, -1 << 32, -most - 1, -1, 16, most + 1, 1 << 32, 1 << 62, math.MaxInt - 1, math.MaxInt}
	for _, low := range append(ends, 3) {
		for _, high := range ends {
			if s := poly.Chord(house, low, high); s != (api.Span{}) {
				t.Errorf("Chord(%d, %d) = %v", low, high, s)
			}
			if s := poly.Chord(house, high, low); s != (api.Span{}) {
				t.Errorf("Chord(%d, %d) = %v", high, low, s)
			}
		}
	}
}

func TestChordOfEveryHeight(t *testing.T) { // P9.7
	random := rand.New(rand.NewSource(7))
	for range 300 {
		magnitude := 1 + random.Intn(9)
		p := randomPoints(random, random.Intn(8), magnitude)
		for low := -magnitude - 1; low <= magnitude+1; low++ {
			for high := low - 1; high <= magnitude+1; high++ {
				if s, want := poly.Chord(p, low, high), chord(p, low, high); s != want {
					t.Errorf("Chord(%v, %d, %d) = %v; want %v", p, low, high, s, want)
				}
			}
		}
	}
}

// allIn reports whether the four corners of a rectangle are in a hull.
func allIn(hull []api.Point, a, b, low, high int) bool {
	for _, q := range points(a, low, b, low, a, high, b, high) {
		if !inside(hull, q) {
			return false
		}
	}
	return true
}

func TestChordsInHulls(t *testing.T) { // P9.10
	random := rand.New(rand.NewSource(8))
	for _, p := range hullLists() {
		h := poly.Hull(p)
		if len(h) == 0 {
			continue
		}
		r := poly.Bounds(p)
		for range 20 {
			low := r.Y.A + random.Intn(r.Y.B-r.Y.A)
			high := low + 1 + random.Intn(r.Y.B-low)
			s := poly.Chord(p, low, high)
			if s == (api.Span{}) {
				continue
			}
			if !allIn(h, s.A, s.B, low, high) || allIn(h, s.A-1, s.B, low, high) || allIn(h, s.A, s.B+1, low, high) {
				t.Errorf("Chord(%v, %d, %d) = %v", p, low, high, s)
			}
			from := low + random.Intn(high-low)
			until := from + 1 + random.Intn(high-from)
			if wide := poly.Chord(p, from, until); wide.A > s.A || wide.B < s.B {
				t.Errorf("Chord(%v, %d, %d) = %v, but from %d to %d it is %v", p, low, high, s, from, until, wide)
			}
		}
	}
}

func TestArgumentsStay(t *testing.T) { // R3
	for _, p := range [][]api.Point{points(4, 4, 0, 4, 2, 1, 4, 0, 0, 0, 0, 2, 4, 4), points(0, 0, 4, 0, 0, 3), points(0, 0, 1, 1, 2, 2)} {
		// The spare capacity behind a list belongs to the caller, too.
		whole := append(slices.Clone(p), points(7, 7, 8, 8)...)
		p, before := whole[:len(p)], slices.Clone(whole)
		poly.Check(p)
		poly.Area2(p)
		poly.Bounds(p)
		poly.Has(p, p[0])
		poly.Chord(p, 0, 1)
		for _, l := range [][]api.Point{poly.Turn(p, 0), poly.Turn(p, 1), poly.Mirror(p), poly.Hull(p)} {
			for i := range l {
				l[i] = api.Point{X: -1, Y: -2}
			}
		}
		if !slices.Equal(whole, before) {
			t.Errorf("%v became %v", before, whole)
		}
	}
}
