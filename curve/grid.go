package curve

import "sawmill/api"

// CheckGrid returns an error unless g is a grid.
func CheckGrid(g api.Grid) api.Errno {
	if len(g.X) == 0 || len(g.Y) == 0 {
		return api.ErrShort
	}
	if len(g.X) > api.MaxCurve || len(g.Y) > api.MaxCurve {
		return api.ErrLong
	}
	if e := checkPlaces(g.X); e != api.OK {
		return e
	}
	if e := checkPlaces(g.Y); e != api.OK {
		return e
	}
	if len(g.V) != len(g.X) {
		return api.ErrShape
	}
	for _, row := range g.V {
		if e := checkRow(row, len(g.Y)); e != api.OK {
			return e
		}
	}
	return api.OK
}

func checkPlaces(l []int) api.Errno {
	for i, n := range l {
		if !inRange(n) {
			return api.ErrRange
		}
		if i > 0 && n <= l[i-1] {
			return api.ErrOrder
		}
	}
	return api.OK
}

func checkRow(row []int, length int) api.Errno {
	if len(row) != length {
		return api.ErrShape
	}
	for _, n := range row {
		if !inRange(n) {
			return api.ErrRange
		}
	}
	return api.OK
}

// Value returns the value of a grid at x and y.
func Value(g api.Grid, x, y int) int {
	if CheckGrid(g) != api.OK {
		return 0
	}
	var values [api.MaxCurve]int
	for i, row := range g.V {
		values[i] = along(g.Y, row, y)
	}
	return along(g.X, values[:], x)
}
