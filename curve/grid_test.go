package curve_test

import (
	"math"
	"math/rand"
	"sawmill/api"
	"sawmill/curve"
	"slices"
	"testing"
)

// steps returns the numbers from 0 up to n.
func steps(n int) []int {
	var l []int
	for i := range n {
		l = append(l, i)
	}
	return l
}

// table returns so many rows of zeros.
func table(rows, columns int) [][]int {
	var v [][]int
	for range rows {
		v = append(v, make([]int, columns))
	}
	return v
}

func TestCheckGrid(t *testing.T) { // P8.5
	one, two := []int{0}, []int{0, 1}
	bad := []int{1, 1}
	wide := []int{million + 1}
	for i, x := range []struct {
		g api.Grid
		e api.Errno
	}{
		{api.Grid{X: one, Y: one, V: table(1, 1)}, api.OK}, {api.Grid{X: two, Y: one, V: table(2, 1)}, api.OK}, {api.Grid{X: one, Y: two, V: table(1, 2)}, api.OK}, {api.Grid{X: steps(16), Y: steps(16), V: table(16, 16)}, api.OK}, {api.Grid{X: []int{-million, million}, Y: []int{-million, million}, V: [][]int{{-million, million}, {million, -million}}}, api.OK},
		{api.Grid{}, api.ErrShort}, {api.Grid{X: []int{}, Y: []int{}, V: [][]int{}}, api.ErrShort}, {api.Grid{X: one}, api.ErrShort}, {api.Grid{Y: one}, api.ErrShort}, {api.Grid{X: one, V: table(1, 0)}, api.ErrShort}, {api.Grid{Y: one, V: table(0, 1)}, api.ErrShort}, {api.Grid{X: steps(17)}, api.ErrShort}, {api.Grid{Y: steps(17)}, api.ErrShort}, {api.Grid{X: wide}, api.ErrShort}, {api.Grid{X: bad}, api.ErrShort},
		{api.Grid{X: steps(17), Y: one, V: table(17, 1)}, api.ErrLong}, {api.Grid{X: one, Y: steps(17), V: table(1, 17)}, api.ErrLong}, {api.Grid{X: wide, Y: steps(17)}, api.ErrLong}, {api.Grid{X: bad, Y: steps(17)}, api.ErrLong}, {api.Grid{X: make([]int, 17), Y: wide}, api.ErrLong}, {api.Grid{X: make([]int, 100000), Y: make([]int, 100000)}, api.ErrLong},
		{api.Grid{X: wide, Y: one, V: table(1, 1)}, api.ErrRange}, {api.Grid{X: []int{-million - 1}, Y: one, V: table(1, 1)}, api.ErrRange}, {api.Grid{X: []int{math.MinInt}, Y: one, V: table(1, 1)}, api.ErrRange}, {api.Grid{X: []int{math.MaxInt}, Y: one, V: table(1, 1)}, api.ErrRange}, {api.Grid{X: bad, Y: one, V: table(2, 1)}, api.ErrOrder}, {api.Grid{X: []int{2, 1}, Y: one, V: table(2, 1)}, api.ErrOrder}, {api.Grid{X: []int{1, 2, 2}, Y: one, V: table(3, 1)}, api.ErrOrder}, {api.Grid{X: []int{1, 1, million + 1}, Y: one, V: table(3, 1)}, api.ErrOrder}, {api.Grid{X: []int{1, million + 1, 1}, Y: one, V: table(3, 1)}, api.ErrRange}, {api.Grid{X: []int{1, -million - 1}, Y: one, V: table(2, 1)}, api.ErrRange},
		{api.Grid{X: one, Y: wide, V: table(1, 1)}, api.ErrRange}, {api.Grid{X: one, Y: []int{-million - 1}, V: table(1, 1)}, api.ErrRange}, {api.Grid{X: one, Y: []int{math.MinInt}, V: table(1, 1)}, api.ErrRange}, {api.Grid{X: one, Y: []int{math.MaxInt}, V: table(1, 1)}, api.ErrRange}, {api.Grid{X: one, Y: bad, V: table(1, 2)}, api.ErrOrder}, {api.Grid{X: one, Y: []int{2, 1}, V: table(1, 2)}, api.ErrOrder}, {api.Grid{X: one, Y: []int{1, -million - 1}, V: table(1, 2)}, api.ErrRange}, {api.Grid{X: one, Y: []int{1, 1, million + 1}, V: table(1, 3)}, api.ErrOrder},
		{api.Grid{X: bad, Y: wide}, api.ErrOrder}, {api.Grid{X: wide, Y: bad}, api.ErrRange}, {api.Grid{X: one, Y: bad}, api.ErrOrder}, {api.Grid{X: one, Y: wide, V: table(2, 2)}, api.ErrRange}, {api.Grid{X: bad, Y: one, V: table(1, 1)}, api.ErrOrder},
		{api.Grid{X: one, Y: one}, api.ErrShape}, {api.Grid{X: one, Y: one, V: table(2, 1)}, api.ErrShape}, {api.Grid{X: two, Y: one, V: table(1, 1)}, api.ErrShape}, {api.Grid{X: two, Y: one, V: [][]int{{million + 1}}}, api.ErrShape}, {api.Grid{X: one, Y: one, V: [][]int{{}}}, api.ErrShape}, {api.Grid{X: one, Y: one, V: [][]int{nil}}, api.ErrShape}, {api.Grid{X: one, Y: one, V: [][]int{{0, 0}}}, api.ErrShape}, {api.Grid{X: one, Y: two, V: [][]int{{0}}}, api.ErrShape}, {api.Grid{X: two, Y: one, V: [][]int{{0}, {0, 0}}}, api.ErrShape}, {api.Grid{X: two, Y: two, V: [][]int{{0, 0}, {0}}}, api.ErrShape}, {api.Grid{X: one, Y: two, V: [][]int{{million + 1}}}, api.ErrShape},
		{api.Grid{X: one, Y: one, V: [][]int{{million + 1}}}, api.ErrRange}, {api.Grid{X: one, Y: one, V: [][]int{{-million - 1}}}, api.ErrRange}, {api.Grid{X: one, Y: one, V: [][]int{{math.MinInt}}}, api.ErrRange}, {api.Grid{X: one, Y: one, V: [][]int{{math.MaxInt}}}, api.ErrRange}, {api.Grid{X: two, Y: two, V: [][]int{{0, 0}, {0, million + 1}}}, api.ErrRange}, {api.Grid{X: two, Y: one, V: [][]int{{million + 1}, {}}}, api.ErrRange}, {api.Grid{X: two, Y: one, V: [][]int{{}, {million + 1}}}, api.ErrShape},
	} {
		if e := curve.CheckGrid(x.g); e != x.e {
			t.Errorf("%d: CheckGrid(%.200v) = %v; want %v", i, x.g, e, x.e)
		}
		if n := curve.Value(x.g, 0, 0); x.e != api.OK && n != 0 {
			t.Errorf("%d: Value(%.200v, 0, 0) = %d", i, x.g, n)
		}
	}
}

func randomGrid(random *rand.Rand, rows, columns, most int) api.Grid {
	g := api.Grid{X: ascending(random, rows, -most, most), Y: ascending(random, columns, -most, most), V: table(rows, columns)}
	for _, row := range g.V {
		for k := range row {
			row[k] = random.Intn(2*most+1) - most
		}
	}
	return g
}

// grids returns small and great grids, with the greatest numbers, and random ones.
func grids() []api.Grid {
	l := []api.Grid{
		{X: []int{0, 10}, Y: []int{0, 100}, V: [][]int{{0, 10}, {20, 30}}}, {X: []int{7}, Y: []int{-7}, V: [][]int{{5}}}, {X: []int{3}, Y: []int{0, 4}, V: [][]int{{10, 0}}}, {X: []int{0, 4}, Y: []int{3}, V: [][]int{{10}, {0}}},
		{X: []int{-million, million}, Y: []int{-million, million}, V: [][]int{{-million, million}, {million, -million}}},
	}
	random := rand.New(rand.NewSource(4))
	for i := range 16 {
		l = append(l, randomGrid(random, 1+i, 1+i/2, 20), randomGrid(random, 1+i/3, 1+i, million))
	}
	l = append(l, randomGrid(random, 16, 16, million))
	return l
}

// join returns the curve of some X and Y.
func join(xs, ys []int) []api.Point {
	var c []api.Point
	for i, x := range xs {
		c = append(c, api.Point{X: x, Y: ys[i]})
	}
	return c
}

// value is the value of a grid at x and y.
func value(g api.Grid, x, y int) int {
	var ofRows []int
	for _, row := range g.V {
		ofRows = append(ofRows, at(join(g.Y, row), y))
	}
	return at(join(g.X, ofRows), x)
}

func TestValue(t *testing.T) { // P8.6
	example := api.Grid{X: []int{0, 10}, Y: []int{0, 100}, V: [][]int{{0, 10}, {20, 30}}}
	for _, x := range [][3]int{{5, 50, 15}, {0, 0, 0}, {0, 100, 10}, {10, 0, 20}, {10, 100, 30}, {-1, 200, 10}, {99, -5, 20}, {5, 59, 15}, {1, 19, 3}, {0, 19, 1}, {9, 19, 19}, {math.MinInt, math.MinInt, 0}, {math.MaxInt, math.MaxInt, 30}, {math.MinInt, math.MaxInt, 10}, {math.MaxInt, math.MinInt, 20}} {
		if n := curve.Value(example, x[0], x[1]); n != x[2] {
			t.Errorf("Value at %d, %d is %d; want %d", x[0], x[1], n, x[2])
		}
	}
	// In the middle the rows have 0 and -1, the columns 0 and 0.
	uneven := api.Grid{X: []int{0, 2}, Y: []int{0, 2}, V: [][]int{{0, 1}, {0, -1}}}
	if n := curve.Value(uneven, 1, 1); n != -1 {
		t.Error("Value along X first:", n)
	}
	for _, g := range grids() {
		for _, x := range places(join(g.X, g.X)) {
			for _, y := range places(join(g.Y, g.Y)) {
				if n := curve.Value(g, x, y); n != value(g, x, y) {
					t.Errorf("Value(%v, %d, %d) = %d; want %d", g, x, y, n, value(g, x, y))
				}
			}
		}
	}
}

func TestValueOfNoGrid(t *testing.T) { // P8.6
	for i, g := range []api.Grid{
		{}, {X: []int{0}}, {X: []int{0}, Y: []int{0}}, {X: []int{0, 0}, Y: []int{0}, V: [][]int{{5}, {5}}}, {X: []int{0}, Y: []int{1, 0}, V: [][]int{{5, 5}}}, {X: []int{0, 1}, Y: []int{0}, V: [][]int{{5}}}, {X: []int{0}, Y: []int{0}, V: [][]int{{5}, {5}}}, {X: []int{0, 1}, Y: []int{0}, V: [][]int{{5}, {}}}, {X: []int{0, 1}, Y: []int{0}, V: [][]int{{5}, {million + 1}}}, {X: []int{0, million + 1}, Y: []int{0}, V: [][]int{{5}, {5}}}, {X: steps(17), Y: []int{0}, V: table(17, 1)},
	} {
		for _, n := range []int{0, 1, -5, math.MinInt, math.MaxInt} {
			if v := curve.Value(g, n, n); v != 0 {
				t.Errorf("%d: Value at %d, %d is %d", i, n, n, v)
			}
		}
	}
}

func TestGrids(t *testing.T) { // P8.9
	for _, g := range grids() {
		least, greatest := leastAndGreatest(slices.Concat(g.V...)...)
		for _, x := range places(join(g.X, g.X)) {
			for _, y := range places(join(g.Y, g.Y)) {
				n := curve.Value(g, x, y)
				if n < least || n > greatest {
					t.Errorf("Value(%v, %d, %d) = %d", g, x, y, n)
				}
				if len(g.X) == 1 && n != curve.At(join(g.Y, g.V[0]), y) {
					t.Errorf("Value(%v, %d, %d) = %d is not that of the row's curve", g, x, y, n)
				}
			}
		}
		for i, x := range g.X {
			for k, y := range g.Y {
				if n := curve.Value(g, x, y); n != g.V[i][k] {
					t.Errorf("Value(%v, %d, %d) = %d; want %d", g, x, y, n, g.V[i][k])
				}
			}
		}
	}
}
