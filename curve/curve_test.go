package curve_test

import (
	"math"
	"math/big"
	"math/rand"
	"sawmill/api"
	"sawmill/curve"
	"slices"
	"testing"
)

const million = 1000000

// points returns the points whose X and Y are given in pairs.
func points(numbers ...int) []api.Point {
	var l []api.Point
	for i := 0; i < len(numbers); i += 2 {
		l = append(l, api.Point{X: numbers[i], Y: numbers[i+1]})
	}
	return l
}

// ascending returns so many different numbers from low to high, in order.
func ascending(random *rand.Rand, count, low, high int) []int {
	chosen := map[int]bool{}
	for len(chosen) < count {
		chosen[low+random.Intn(high-low+1)] = true
	}
	var l []int
	for n := range chosen {
		l = append(l, n)
	}
	slices.Sort(l)
	return l
}

// randomCurve returns a curve of so many points whose numbers have at most the given magnitude.
func randomCurve(random *rand.Rand, count, most int) []api.Point {
	var c []api.Point
	for _, x := range ascending(random, count, -most, most) {
		c = append(c, api.Point{X: x, Y: random.Intn(2*most+1) - most})
	}
	return c
}

// curves returns curves: rising, falling and flat ones, short and long ones, with the greatest numbers, and random ones.
func curves() [][]api.Point {
	l := [][]api.Point{
		points(0, 0, 10, 5), points(0, 10, 4, 0), points(0, 0), points(7, -3), points(-million, million), points(0, 5, 1, 5), points(0, 5, 9, 5, 20, 5), points(0, 0, 3, 7, 4, 7, 9, -1), points(-5, -8, 2, 3, 3, 3), points(-9, 0, -4, 9, 0, 0, 1, 9),
		points(-million, -million, million, million), points(-million, million, million, -million), points(-million, -million, million-1, million, million, -million), points(-million, 0, -million+1, million, million, million),
	}
	random := rand.New(rand.NewSource(1))
	for i := range 120 {
		l = append(l, randomCurve(random, 1+i%api.MaxCurve, 20), randomCurve(random, 1+i%api.MaxCurve, million))
	}
	return l
}

// between interpolates with numbers of any size between a at s and b at t.
func between(a, s, b, t, n int) int {
	product := new(big.Int).Mul(big.NewInt(int64(b-a)), big.NewInt(int64(n-s)))
	return a + int(new(big.Int).Div(product, big.NewInt(int64(t-s))).Int64()) // Div rounds down, since t - s is above 0
}

// at is the value of a curve at x.
func at(c []api.Point, x int) int {
	last := len(c) - 1
	switch {
	case x <= c[0].X:
		return c[0].Y
	case x >= c[last].X:
		return c[last].Y
	}
	i, found := slices.BinarySearchFunc(c, x, func(p api.Point, x int) int { return p.X - x })
	if found {
		return c[i].Y
	}
	return between(c[i-1].Y, c[i-1].X, c[i].Y, c[i].X, x)
}

// places returns numbers around the points of a curve, between them, and at both ends of an int.
func places(c []api.Point) []int {
	l := []int{math.MinInt, math.MinInt + 1, -million - 1, 0, million + 1, math.MaxInt - 1, math.MaxInt}
	random := rand.New(rand.NewSource(2))
	for i, p := range c {
		l = append(l, p.X-1, p.X, p.X+1)
		if i > 0 {
			from := c[i-1].X
			l = append(l, (from+p.X)/2, from+random.Intn(p.X-from), from+random.Intn(p.X-from))
		}
	}
	return l
}

func notCurves() [][]api.Point {
	return [][]api.Point{nil, {}, make([]api.Point, 17), points(1, 0, 1, 5), points(2, 0, 1, 5), points(0, million+1), points(-million-1, 0, 5, 5)}
}

func TestCheck(t *testing.T) { // P8.1
	var steps []api.Point
	for i := range 17 {
		steps = append(steps, api.Point{X: i, Y: -i})
	}
	for _, x := range []struct {
		c []api.Point
		e api.Errno
	}{
		{nil, api.ErrShort}, {[]api.Point{}, api.ErrShort}, {points(0, 0), api.OK}, {steps[:16], api.OK}, {steps, api.ErrLong}, {make([]api.Point, 17), api.ErrLong}, {make([]api.Point, 100000), api.ErrLong}, {make([]api.Point, 16), api.ErrOrder},
		{points(-million, -million, million, million), api.OK}, {points(million, million), api.OK}, {points(-million, million), api.OK}, {points(million+1, 0), api.ErrRange}, {points(-million-1, 0), api.ErrRange}, {points(0, million+1), api.ErrRange}, {points(0, -million-1), api.ErrRange}, {points(math.MinInt, 0), api.ErrRange}, {points(0, math.MinInt), api.ErrRange}, {points(math.MaxInt, 0), api.ErrRange}, {points(0, math.MaxInt), api.ErrRange},
		{points(1, 0, 1, 5), api.ErrOrder}, {points(1, 0, 0, 5), api.ErrOrder}, {points(1, 5, 2, 5), api.OK}, {points(0, 0, 1, 0, 1, 0), api.ErrOrder}, {points(0, 0, 2, 0, 1, 0), api.ErrOrder}, {points(million, 0, -million, 0), api.ErrOrder},
		{points(1, 0, 0, million+1), api.ErrRange}, {points(1, 0, -million-1, 0), api.ErrRange}, {points(1, 0, 1, 0, million+1, 0), api.ErrOrder}, {points(1, 0, million+1, 0, 0, 0), api.ErrRange}, {points(0, 0, 1, 0, 2, -million-1), api.ErrRange}, {append(slices.Clone(steps[:15]), api.Point{X: 14}), api.ErrOrder}, {append(slices.Clone(steps[:15]), api.Point{X: math.MaxInt}), api.ErrRange},
	} {
		if e := curve.Check(x.c); e != x.e {
			t.Errorf("Check(%.200v) = %v; want %v", x.c, e, x.e)
		}
	}
}

func TestAt(t *testing.T) { // P8.2
	for _, x := range []struct {
		c       []api.Point
		x, want int
	}{
		{points(0, 0, 10, 5), 3, 1}, {points(0, 0, 10, 5), -4, 0}, {points(0, 0, 10, 5), 20, 5}, {points(0, 0, 10, 5), 0, 0}, {points(0, 0, 10, 5), 10, 5}, {points(0, 0, 10, 5), 9, 4}, {points(0, 0, 10, 5), 1, 0},
		{points(0, 10, 4, 0), 1, 7}, {points(0, 10, 4, 0), 2, 5}, {points(0, 10, 4, 0), 3, 2}, {points(0, 10, 4, 0), 4, 0}, {points(0, 10, 4, 0), math.MaxInt, 0}, {points(0, 10, 4, 0), math.MinInt, 10},
		{points(0, -10, 4, 0), 1, -8}, {points(-10, -5, 0, 0), -3, -2}, {points(-10, 0, 0, -5), -7, -2}, {points(7, -3), 6, -3}, {points(7, -3), 7, -3}, {points(7, -3), 8, -3}, {points(0, 0, 3, 7, 4, 7, 9, -1), 3, 7}, {points(0, 0, 3, 7, 4, 7, 9, -1), 4, 7}, {points(0, 0, 3, 7, 4, 7, 9, -1), 8, 0},
		{points(-million, -million, million, million), 12345, 12345}, {points(-million, million, million, -million), 12345, -12345}, {points(-million, -million, million, million), math.MaxInt, million}, {points(-million, -million, million, million), math.MinInt, -million},
	} {
		if n := curve.At(x.c, x.x); n != x.want {
			t.Errorf("At(%v, %d) = %d; want %d", x.c, x.x, n, x.want)
		}
	}
	for _, c := range curves() {
		for _, x := range places(c) {
			if n := curve.At(c, x); n != at(c, x) {
				t.Errorf("At(%v, %d) = %d; want %d", c, x, n, at(c, x))
			}
		}
	}
}

func TestNoCurve(t *testing.T) { // P8.2, P8.3, P8.4
	for _, c := range notCurves() {
		for _, n := range []int{0, 1, -5, math.MinInt, math.MaxInt} {
			if y := curve.At(c, n); y != 0 {
				t.Errorf("At(%v, %d) = %d", c, n, y)
			}
			if x, ok := curve.Reach(c, n); x != 0 || ok {
				t.Errorf("Reach(%v, %d) = %d, %v", c, n, x, ok)
			}
		}
		if curve.Rising(c) {
			t.Errorf("Rising(%v)", c)
		}
	}
}

func TestReach(t *testing.T) { // P8.3
	for _, x := range []struct {
		c       []api.Point
		y, want int
		ok      bool
	}{
		{points(0, 0, 10, 5), 3, 6, true}, {points(0, 0, 10, 5), 6, 0, false}, {points(0, 0, 10, 5), 5, 10, true}, {points(0, 0, 10, 5), 1, 2, true}, {points(0, 0, 10, 5), 0, 0, true}, {points(3, 0, 10, 5), -7, 3, true}, {points(3, 0, 10, 5), math.MinInt, 3, true}, {points(3, 0, 10, 5), math.MaxInt, 0, false},
		{points(0, 10, 4, 0), 10, 0, true}, {points(-4, 10, 4, 0), 3, -4, true}, {points(-4, 10, 4, 0), 11, 0, false}, {points(7, -3), -3, 7, true}, {points(7, -3), -4, 7, true}, {points(7, -3), -2, 0, false},
		{points(0, 0, 3, 7, 4, 7, 9, 20), 7, 3, true}, {points(0, 0, 3, 7, 4, 7, 9, 20), 8, 5, true}, {points(0, 5, 5, 0, 10, 20), 6, 7, true}, {points(0, 5, 5, 0, 10, 20), 5, 0, true}, {points(0, -1, 5, -1, 6, 0), 0, 6, true}, {points(-10, -5, 0, 0), -4, -8, true}, {points(0, 0, 1, 100), 1, 1, true}, {points(0, 0, 1, 100), 100, 1, true},
		{points(-million, -million, million, million), 12345, 12345, true}, {points(-million, -million, million, million), million, million, true}, {points(-million, -million, million, million), million + 1, 0, false},
	} {
		if n, ok := curve.Reach(x.c, x.y); n != x.want || ok != x.ok {
			t.Errorf("Reach(%v, %d) = %d, %v; want %d, %v", x.c, x.y, n, ok, x.want, x.ok)
		}
	}
	for _, c := range curves() {
		if len(c) > 1 && c[len(c)-1].X-c[0].X > 50 {
			continue // too long to look at every x
		}
		for y := -22; y <= 22; y++ {
			checkReach(t, c, y)
		}
	}
}

// checkReach looks at every x of a curve.
func checkReach(t *testing.T, c []api.Point, y int) {
	t.Helper()
	want, wanted := 0, false
	for x := c[0].X; x <= c[len(c)-1].X && !wanted; x++ {
		if at(c, x) >= y {
			want, wanted = x, true
		}
	}
	if x, ok := curve.Reach(c, y); x != want || ok != wanted {
		t.Errorf("Reach(%v, %d) = %d, %v; want %d, %v", c, y, x, ok, want, wanted)
	}
}

func TestRising(t *testing.T) { // P8.4
	for _, x := range []struct {
		c    []api.Point
		want bool
	}{
		{points(0, 0, 10, 5), true}, {points(0, 10, 4, 0), false}, {points(0, 0), true}, {points(0, 5, 1, 5), true}, {points(0, 5, 1, 4), false}, {points(0, 0, 1, 5, 2, 4, 3, 9), false}, {points(0, 0, 1, 5, 2, 6, 3, 5), false}, {points(0, 1, 1, 0, 2, 6), false}, {points(0, -9, 1, -5, 2, -5, 3, 0), true}, {points(-million, -million, million, million), true},
		{points(0, 0, 0, 5), false}, {points(1, 0, 0, 5), false}, {points(0, 0, 1, million+1), false}, {points(-million-1, 0, 1, 5), false}, {nil, false}, {make([]api.Point, 17), false},
	} {
		if curve.Rising(x.c) != x.want {
			t.Errorf("Rising(%v) = %v", x.c, !x.want)
		}
	}
	for _, c := range curves() {
		want := slices.IsSortedFunc(c, func(p, q api.Point) int { return p.Y - q.Y })
		if curve.Rising(c) != want {
			t.Errorf("Rising(%v) = %v", c, !want)
		}
	}
}

func leastAndGreatest(l ...int) (int, int) { return slices.Min(l), slices.Max(l) }

func TestBetween(t *testing.T) { // P8.7
	for _, c := range curves() {
		var values []int
		for _, p := range c {
			values = append(values, p.Y)
		}
		least, greatest := leastAndGreatest(values...)
		all := places(c)
		slices.Sort(all)
		before := math.MinInt
		for _, x := range all {
			n := curve.At(c, x)
			if n < least || n > greatest {
				t.Errorf("At(%v, %d) = %d", c, x, n)
			}
			if curve.Rising(c) && n < before {
				t.Errorf("At(%v, %d) = %d, less than %d at a smaller x", c, x, n, before)
			}
			before = n
			i := slices.IndexFunc(c, func(p api.Point) bool { return p.X >= x })
			if i < 1 {
				continue
			}
			if least, greatest := leastAndGreatest(c[i-1].Y, c[i].Y); n < least || n > greatest {
				t.Errorf("At(%v, %d) = %d, not between the points around", c, x, n)
			}
		}
	}
}

func TestFirst(t *testing.T) { // P8.8
	random := rand.New(rand.NewSource(3))
	for _, c := range curves() {
		values := []int{math.MinInt, -million - 1, 0, million, million + 1, math.MaxInt}
		for _, p := range c {
			values = append(values, p.Y-1, p.Y, p.Y+1, random.Intn(million+1), -random.Intn(million+1))
		}
		for _, y := range values {
			checkFirst(t, c, y)
		}
	}
}

func checkFirst(t *testing.T, c []api.Point, y int) {
	t.Helper()
	x, ok := curve.Reach(c, y)
	if reached := slices.ContainsFunc(c, func(p api.Point) bool { return p.Y >= y }); ok != reached {
		t.Errorf("Reach(%v, %d) = %d, %v", c, y, x, ok)
	}
	if !ok {
		return
	}
	if x < c[0].X || x > c[len(c)-1].X || curve.At(c, x) < y {
		t.Errorf("Reach(%v, %d) = %d, where the value is %d", c, y, x, curve.At(c, x))
	}
	// Between two points the curve only rises or only falls, so it is enough to look at the points and just before x.
	for _, p := range append(slices.Clone(c), api.Point{X: x - 1}) {
		if p.X >= c[0].X && p.X < x && curve.At(c, p.X) >= y {
			t.Errorf("Reach(%v, %d) = %d, but at %d the value is %d", c, y, x, p.X, curve.At(c, p.X))
		}
	}
}

func TestArgumentsStay(t *testing.T) { // R3
	c := points(0, 0, 10, 5, 20, -3)
	g := api.Grid{X: []int{0, 10}, Y: []int{0, 100}, V: [][]int{{0, 10}, {20, 30}}}
	for range 2 {
		curve.Check(c)
		curve.At(c, 7)
		curve.Reach(c, 4)
		curve.Rising(c)
		curve.CheckGrid(g)
		curve.Value(g, 5, 50)
	}
	if !slices.Equal(c, points(0, 0, 10, 5, 20, -3)) {
		t.Error("the curve has changed:", c)
	}
	if !slices.Equal(g.X, []int{0, 10}) || !slices.Equal(g.Y, []int{0, 100}) || !slices.Equal(g.V[0], []int{0, 10}) || !slices.Equal(g.V[1], []int{20, 30}) {
		t.Error("the grid has changed:", g)
	}
}
