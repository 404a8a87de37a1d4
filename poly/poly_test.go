package poly_test

import (
	"math"
	"math/rand"
	"sawmill/api"
	"sawmill/poly"
	"slices"
	"testing"
)

const most = api.MaxCross

// points returns the points whose X and Y are given in pairs.
func points(numbers ...int) []api.Point {
	var l []api.Point
	for i := 0; i < len(numbers); i += 2 {
		l = append(l, api.Point{X: numbers[i], Y: numbers[i+1]})
	}
	return l
}

// randomPoints returns points with coordinates of at most the given magnitude, of which some are equal if it is small.
func randomPoints(random *rand.Rand, count, magnitude int) []api.Point {
	var l []api.Point
	for range count {
		l = append(l, api.Point{X: random.Intn(2*magnitude+1) - magnitude, Y: random.Intn(2*magnitude+1) - magnitude})
	}
	return l
}

// variedLists returns lists of points in range, short and long, crowded and spread, on one line and not.
func variedLists() [][]api.Point {
	lists := [][]api.Point{
		nil, {}, points(1, 2), points(1, 2, 3, 4), points(1, 1, 1, 1, 1, 1), points(0, 0, 1, 1, 2, 2), points(0, 3, 0, 1, 0, 2), points(5, 0, 3, 0, 4, 0, 3, 0),
		points(0, 0, 4, 0, 0, 3), points(0, 0, 0, 3, 4, 0), points(0, 0, 2, 0, 4, 0, 1, 1, 4, 4), points(0, 0, 10, 0, 10, 10, 0, 10, 5, 15), points(0, 0, 4, 4, 4, 0, 0, 6), points(0, 0, 4, 4, 4, 0, 0, 4), points(0, 0, 8, 0, 8, 8, 4, 2, 0, 8),
		points(-most, -most, most, -most, most, most, -most, most), points(-most, -most, most, most, most, most-1), points(most, -most, most, most, most-1, most),
	}
	random := rand.New(rand.NewSource(1))
	for count := range api.MaxPoints + 1 {
		for _, magnitude := range []int{1, 2, 3, 5, 12, most} {
			lists = append(lists, randomPoints(random, count, magnitude), randomPoints(random, min(count, 5), magnitude))
		}
	}
	return lists
}

// notInRange returns lists with a point beyond each of the limits, and with points at both ends of an int.
func notInRange() [][]api.Point {
	var lists [][]api.Point
	for _, n := range []int{most + 1, -most - 1, 1 << 32, math.MaxInt, math.MinInt, math.MinInt + 1} {
		for _, far := range []api.Point{{X: n}, {Y: n}, {X: n, Y: n}} {
			lists = append(lists, append(points(0, 0, 4, 0, 0, 4), far), append([]api.Point{far}, points(0, 0, 4, 0, 0, 4)...), []api.Point{far, {}, {X: 1, Y: 2}})
		}
	}
	return lists
}

// circle returns points around the origin, many more of which are corners of their hull than of that of random points.
func circle(count int) []api.Point {
	var l []api.Point
	for i := range count {
		angle := 2 * math.Pi * float64(i) / float64(count)
		l = append(l, api.Point{X: int(most * math.Cos(angle)), Y: int(most * math.Sin(angle))})
	}
	return l
}

func TestCheck(t *testing.T) { // P9.1
	for _, x := range []struct {
		p []api.Point
		e api.Errno
	}{
		{nil, api.ErrShort}, {[]api.Point{}, api.ErrShort}, {points(1, 2), api.ErrShort}, {points(0, 0, 1, 0), api.ErrShort}, {points(0, 0, most+1, 0), api.ErrShort}, {points(0, 0, 1, 0, 0, 1), api.OK}, {points(0, 0, 0, 1, 1, 0), api.OK},
		{circle(32), api.OK}, {circle(33), api.ErrLong}, {make([]api.Point, 33), api.ErrLong}, {make([]api.Point, 100000), api.ErrLong}, {append(circle(32), api.Point{X: math.MinInt}), api.ErrLong}, {make([]api.Point, 32), api.ErrShape},
		{points(-most, -most, most, -most, most, most, -most, most), api.OK}, {points(0, 0, most+1, 0, 0, 1), api.ErrRange}, {points(0, 0, -most-1, 0, 0, 1), api.ErrRange}, {points(0, 0, 0, most+1, 1, 0), api.ErrRange}, {points(0, 0, 0, -most-1, 1, 0), api.ErrRange},
		{points(0, 0, 1, 1, most+1, most+1), api.ErrRange}, {points(most+1, 0, most+1, 0, most+1, 0), api.ErrRange}, {points(0, 0, 1, 1, 2, 2), api.ErrShape}, {points(5, 5, 5, 5, 5, 5), api.ErrShape}, {points(0, 0, 1, 1, 0, 0), api.ErrShape}, {points(0, 0, 3, 0, 1, 0, 2, 0), api.ErrShape},
		{points(0, 0, 4, 4, 4, 0, 0, 6), api.OK}, {points(0, 0, 4, 4, 4, 0, 0, 4), api.ErrShape}, {points(0, 0, 1, 0, 0, 1, 0, 0, 0, 1, 1, 0), api.ErrShape}, {points(0, 0, 1, 0, 0, 1, 0, 0, 1, 0, 0, 1), api.OK}, {points(1, 1, 1, 1, 2, 1, 1, 2), api.OK},
	} {
		if e := poly.Check(x.p); e != x.e {
			t.Errorf("Check(%.200v) = %v; want %v", x.p, e, x.e)
		}
	}
	for _, p := range notInRange() {
		if e := poly.Check(p); e != api.ErrRange {
			t.Errorf("Check(%v) = %v", p, e)
		}
	}
}

// fan is twice the area as the sum over the triangles at the first point.
func fan(p []api.Point) int {
	sum := 0
	for i := 1; i+1 < len(p); i++ {
		sum += left(p[0], p[i], p[i+1])
	}
	return sum
}

// left is above 0 if c is to the left of the way from a to b.
func left(a, b, c api.Point) int {
	return (b.X-a.X)*(c.Y-a.Y) - (c.X-a.X)*(b.Y-a.Y)
}

func TestArea2(t *testing.T) { // P9.2
	for _, x := range []struct {
		p    []api.Point
		want int
	}{
		{points(0, 0, 4, 0, 0, 3), 12}, {points(0, 0, 0, 3, 4, 0), -12}, {points(-4, 0, 0, 3, 0, 0), -12}, {points(0, 0, 6, 0, 6, 4, 0, 4), 48}, {points(10, 10, 16, 10, 16, 14, 10, 14), 48}, {points(-3, -2, 3, -2, 3, 2, -3, 2), 48},
		{points(0, 0, 8, 0, 8, 8, 4, 2, 0, 8), 80}, {points(0, 0, 4, 4, 4, 0, 0, 6), 8}, {points(0, 0, 4, 4, 4, 0, 0, 4), 0}, {points(0, 0, 1, 0, 0, 1, 0, 0, 1, 0, 0, 1), 2}, {nil, 0}, {points(3, 4), 0}, {points(3, 4, 7, 9), 0}, {points(0, 0, 1, 1, 5, 5), 0}, {points(2, 2, 2, 2, 2, 2), 0},
		{points(-most, -most, most, -most, most, most, -most, most), 8 * most * most}, {points(-most, most, most, most, most, -most, -most, -most), -8 * most * most}, {points(0, 0, 1, 0, 0, 1, most+1, 0), 0}, {circle(33), 0}, {append(make([]api.Point, 30), points(0, 0, 1, 0, 0, 1)...), 0}, {append(make([]api.Point, 29), points(0, 0, 1, 0, 0, 1)...), 1},
	} {
		if n := poly.Area2(x.p); n != x.want {
			t.Errorf("Area2(%v) = %d; want %d", x.p, n, x.want)
		}
	}
	for _, p := range variedLists() {
		if n := poly.Area2(p); n != fan(p) {
			t.Errorf("Area2(%v) = %d; want %d", p, n, fan(p))
		}
	}
	for _, p := range notInRange() {
		if n := poly.Area2(p); n != 0 {
			t.Errorf("Area2(%v) = %d", p, n)
		}
	}
}

func TestBounds(t *testing.T) { // P9.3
	rect := func(a, b, c, d int) api.Rect {
		return api.Rect{X: api.Span{A: a, B: b}, Y: api.Span{A: c, B: d}}
	}
	for _, x := range []struct {
		p    []api.Point
		want api.Rect
	}{
		{nil, api.Rect{}}, {[]api.Point{}, api.Rect{}}, {points(3, -4), rect(3, 3, -4, -4)}, {points(5, 1, 2, 1), rect(2, 5, 1, 1)}, {points(5, 1, 5, 8), rect(5, 5, 1, 8)}, {points(0, 0, 6, 0, 6, 4, 0, 4), rect(0, 6, 0, 4)}, {points(1, 7, 9, 3, 5, 5), rect(1, 9, 3, 7)}, {points(-5, -7, -2, -3), rect(-5, -2, -7, -3)},
		{points(math.MinInt, 0, math.MaxInt, 1), rect(math.MinInt, math.MaxInt, 0, 1)}, {points(0, math.MaxInt, 1, math.MinInt), rect(0, 1, math.MinInt, math.MaxInt)}, {points(math.MaxInt, math.MaxInt), rect(math.MaxInt, math.MaxInt, math.MaxInt, math.MaxInt)}, {points(math.MinInt, math.MinInt), rect(math.MinInt, math.MinInt, math.MinInt, math.MinInt)},
	} {
		if r := poly.Bounds(x.p); r != x.want {
			t.Errorf("Bounds(%v) = %v; want %v", x.p, r, x.want)
		}
	}
	random := rand.New(rand.NewSource(2))
	for range 300 {
		p := randomPoints(random, 1+random.Intn(100), 1<<40)
		var xs, ys []int
		for _, q := range p {
			xs, ys = append(xs, q.X), append(ys, q.Y)
		}
		if r := poly.Bounds(p); r != rect(slices.Min(xs), slices.Max(xs), slices.Min(ys), slices.Max(ys)) {
			t.Errorf("Bounds(%v) = %v", p, r)
		}
	}
}

// turn turns a point by quarters, one after the other.
func turn(q api.Point, quarters int) api.Point {
	for range (quarters%4 + 4) % 4 {
		q = api.Point{X: -q.Y, Y: q.X}
	}
	return q
}

func turnAll(p []api.Point, quarters int) []api.Point {
	var turned []api.Point
	for _, q := range p {
		turned = append(turned, turn(q, quarters))
	}
	return turned
}

func quarters() []int {
	return []int{-9, -8, -7, -6, -5, -4, -3, -2, -1, 0, 1, 2, 3, 4, 5, 6, 7, 8, 9, math.MinInt, math.MinInt + 1, math.MinInt + 2, math.MinInt + 3, math.MaxInt - 3, math.MaxInt - 2, math.MaxInt - 1, math.MaxInt}
}

func TestTurn(t *testing.T) { // P9.4
	for _, x := range []struct {
		quarters int
		want     api.Point
	}{{0, api.Point{X: 3, Y: 1}}, {1, api.Point{X: -1, Y: 3}}, {2, api.Point{X: -3, Y: -1}}, {3, api.Point{X: 1, Y: -3}}, {4, api.Point{X: 3, Y: 1}}, {-1, api.Point{X: 1, Y: -3}}, {-2, api.Point{X: -3, Y: -1}}, {-3, api.Point{X: -1, Y: 3}}, {math.MinInt, api.Point{X: 3, Y: 1}}, {math.MaxInt, api.Point{X: 1, Y: -3}}} {
		if l := poly.Turn(points(3, 1), x.quarters); !slices.Equal(l, []api.Point{x.want}) {
			t.Errorf("Turn by %d: %v; want %v", x.quarters, l, x.want)
		}
	}
	far := points(math.MaxInt, math.MinInt+1, -7, math.MaxInt, math.MinInt+1, math.MinInt+1)
	for _, p := range append(variedLists(), far, slices.Repeat(far, 50)) {
		for _, k := range quarters() {
			if l := poly.Turn(p, k); !slices.Equal(l, turnAll(p, k)) {
				t.Errorf("Turn(%v, %d) = %v", p, k, l)
			}
		}
	}
}

func TestMirror(t *testing.T) { // P9.4
	for _, x := range []struct{ p, want []api.Point }{
		{nil, nil}, {points(3, 1), points(-3, 1)}, {points(0, 0, 0, 3, 4, 0), points(-4, 0, 0, 3, 0, 0)}, {points(3, 1, -2, 5), points(2, 5, -3, 1)}, {points(math.MaxInt, math.MaxInt, math.MinInt+1, math.MinInt+1), points(math.MaxInt, math.MinInt+1, math.MinInt+1, math.MaxInt)},
	} {
		if l := poly.Mirror(x.p); !slices.Equal(l, x.want) {
			t.Errorf("Mirror(%v) = %v; want %v", x.p, l, x.want)
		}
	}
	for _, p := range append(variedLists(), slices.Repeat(points(1, 2, 3, 4), 50)) {
		l := poly.Mirror(p)
		if len(l) != len(p) {
			t.Fatalf("Mirror(%v) = %v", p, l)
		}
		for i, q := range l {
			if from := p[len(p)-1-i]; q.X != -from.X || q.Y != from.Y {
				t.Errorf("Mirror(%v) = %v", p, l)
			}
		}
	}
}

func TestLeastIntCanNotBeTurned(t *testing.T) { // P9.4
	for _, p := range [][]api.Point{points(math.MinInt, 0), points(0, math.MinInt), points(math.MinInt, math.MinInt), points(1, 1, 0, math.MinInt), points(math.MinInt, 5, 1, 1), points(1, 1, 2, 2, math.MinInt, 0, 3, 3)} {
		for _, k := range quarters() {
			if l := poly.Turn(p, k); len(l) > 0 {
				t.Errorf("Turn(%v, %d) = %v", p, k, l)
			}
		}
		if l := poly.Mirror(p); len(l) > 0 {
			t.Errorf("Mirror(%v) = %v", p, l)
		}
	}
}

// inRegion follows a ray that meets no corner: from one point with integer coordinates it leads to the next one only 5000 mm to the right.
func inRegion(p []api.Point, q api.Point) bool {
	onward := api.Point{X: q.X + 5000, Y: q.Y + 1}
	crossed := 0
	for i, a := range p {
		b := p[(i+1)%len(p)]
		if isBetween(a, b, q) {
			return true
		}
		beside, beyond := left(q, onward, a), left(q, onward, b)
		if (beside > 0) == (beyond > 0) {
			continue
		}
		// An edge that crosses the line of the ray from right to left is ahead of q exactly if q is to the left of it.
		if (left(a, b, q) > 0) == (beyond > 0) {
			crossed++
		}
	}
	return crossed%2 == 1
}

// isBetween reports whether q is on the way from a to b.
func isBetween(a, b, q api.Point) bool {
	return left(a, b, q) == 0 && (q.X-a.X)*(q.X-b.X) <= 0 && (q.Y-a.Y)*(q.Y-b.Y) <= 0
}

// targets returns points in and around p: the corners, the middles, their neighbours, all points if there are few, and random ones.
func targets(random *rand.Rand, p []api.Point) []api.Point {
	var l []api.Point
	r := poly.Bounds(p)
	if r.X.B-r.X.A < 8 && r.Y.B-r.Y.A < 8 {
		for x := r.X.A - 1; x <= r.X.B+1; x++ {
			for y := r.Y.A - 1; y <= r.Y.B+1; y++ {
				l = append(l, api.Point{X: x, Y: y})
			}
		}
		return l
	}
	for i, a := range p {
		b := p[(i+1)%len(p)]
		middle := api.Point{X: (a.X + b.X) / 2, Y: (a.Y + b.Y) / 2}
		l = append(l, a, middle, api.Point{X: a.X - 1, Y: a.Y}, api.Point{X: middle.X, Y: middle.Y + 1}, api.Point{X: r.X.A + random.Intn(r.X.B-r.X.A+1), Y: r.Y.A + random.Intn(r.Y.B-r.Y.A+1)})
	}
	return l
}

func TestHas(t *testing.T) { // P9.5
	triangle := points(0, 0, 4, 0, 0, 4)
	notch := points(0, 0, 8, 0, 8, 8, 4, 2, 0, 8)
	twice := points(0, 0, 4, 0, 0, 4, 0, 0, 4, 0, 0, 4)
	spike := points(0, 0, 4, 0, 4, 4, 4, 9, 4, 4, 0, 4)
	for _, x := range []struct {
		p    []api.Point
		q    api.Point
		want bool
	}{
		{triangle, api.Point{X: 2, Y: 2}, true}, {triangle, api.Point{}, true}, {triangle, api.Point{X: 1, Y: 1}, true}, {triangle, api.Point{X: 3, Y: 2}, false}, {triangle, api.Point{X: -1, Y: 0}, false}, {triangle, api.Point{X: 5, Y: 0}, false}, {triangle, api.Point{X: 0, Y: 4}, true}, {triangle, api.Point{X: -1, Y: 4}, false}, {triangle, api.Point{X: 3, Y: 0}, true}, {triangle, api.Point{X: 3, Y: -1}, false},
		{notch, api.Point{X: 4, Y: 2}, true}, {notch, api.Point{X: 4, Y: 3}, false}, {notch, api.Point{X: 4, Y: 1}, true}, {notch, api.Point{X: 1, Y: 2}, true}, {notch, api.Point{X: -1, Y: 2}, false}, {notch, api.Point{X: 1, Y: 8}, false},
		{twice, api.Point{X: 1, Y: 1}, false}, {twice, api.Point{X: 2, Y: 2}, true}, {twice, api.Point{X: 0, Y: 1}, true}, {spike, api.Point{X: 4, Y: 7}, true}, {spike, api.Point{X: 3, Y: 7}, false}, {spike, api.Point{X: 5, Y: 7}, false}, {spike, api.Point{X: 4, Y: 10}, false}, {spike, api.Point{X: 3, Y: 4}, true}, {spike, api.Point{X: 2, Y: 2}, true},
		{points(0, 0, 4, 4, 4, 0, 0, 4), api.Point{X: 2, Y: 2}, false}, {points(0, 0, 1, 1), api.Point{}, false}, {points(0, 0, 1, 1, 2, 2), api.Point{X: 1, Y: 1}, false}, {nil, api.Point{}, false}, {append(make([]api.Point, 30), triangle...), api.Point{X: 1, Y: 1}, false}, {append(make([]api.Point, 29), triangle...), api.Point{X: 1, Y: 1}, true},
	} {
		if poly.Has(x.p, x.q) != x.want {
			t.Errorf("Has(%v, %v) = %v", x.p, x.q, !x.want)
		}
	}
	for _, p := range notInRange() {
		if poly.Has(p, api.Point{}) || poly.Has(p, api.Point{X: 1, Y: 1}) {
			t.Errorf("%v has a region", p)
		}
	}
}

func TestHasByRays(t *testing.T) { // P9.5
	random := rand.New(rand.NewSource(3))
	lists := variedLists()
	for range 3000 {
		lists = append(lists, randomPoints(random, 3+random.Intn(8), 1+random.Intn(3)))
	}
	for _, p := range lists {
		isPolygon := poly.Check(p) == api.OK
		for _, q := range targets(random, p) {
			if want := isPolygon && inRegion(p, q); poly.Has(p, q) != want {
				t.Fatalf("Has(%v, %v) = %v", p, q, !want)
			}
		}
	}
}

func TestHasFarAway(t *testing.T) { // P9.5
	square := points(-most, -most, most, -most, most, most, -most, most)
	ends := []int{math.MinInt, math.MinInt + 1, math.MinInt + most, -1 << 62, -1 << 32, -most - 1, -most, 0, 1, most, most + 1, 1 << 32, 1 << 53, 1 << 62, math.MaxInt - most, math.MaxInt}
	for _, x := range ends {
		for _, y := range ends {
			want := max(x, y) <= most && min(x, y) >= -most
			if poly.Has(square, api.Point{X: x, Y: y}) != want {
				t.Errorf("Has(%d, %d) = %v", x, y, !want)
			}
		}
	}
}

func TestTurnedRegions(t *testing.T) { // P9.8
	random := rand.New(rand.NewSource(4))
	for _, p := range variedLists() {
		mirrored := poly.Mirror(p)
		if poly.Area2(mirrored) != poly.Area2(p) {
			t.Errorf("Mirror of %v has the area %d", p, poly.Area2(mirrored))
		}
		if twice := poly.Mirror(mirrored); !slices.Equal(twice, p) {
			t.Errorf("Mirror twice: %v from %v", twice, p)
		}
		fourTimes := p
		for range 4 {
			fourTimes = poly.Turn(fourTimes, 1)
		}
		if !slices.Equal(fourTimes, p) {
			t.Errorf("four quarters: %v from %v", fourTimes, p)
		}
		near := targets(random, p)
		for k := -1; k < 4; k++ {
			turned := poly.Turn(p, k)
			if poly.Area2(turned) != poly.Area2(p) {
				t.Errorf("Turn of %v by %d has the area %d", p, k, poly.Area2(turned))
			}
			checkMoved(t, p, turned, near, func(q api.Point) api.Point { return turn(q, k) })
		}
		checkMoved(t, p, mirrored, near, func(q api.Point) api.Point { return api.Point{X: -q.X, Y: q.Y} })
	}
}

// checkMoved compares the regions and the hulls of points before and after a movement.
func checkMoved(t *testing.T, before, after, near []api.Point, move func(api.Point) api.Point) {
	t.Helper()
	for _, q := range near {
		if poly.Has(before, q) != poly.Has(after, move(q)) {
			t.Errorf("%v has %v: %v, %v has %v: %v", before, q, poly.Has(before, q), after, move(q), poly.Has(after, move(q)))
		}
	}
	var want []api.Point
	for _, q := range poly.Hull(before) {
		want = append(want, move(q))
	}
	if hull := poly.Hull(after); !slices.Equal(inOrder(hull), inOrder(want)) {
		t.Errorf("Hull of %v is %v; want %v", after, hull, want)
	}
}
