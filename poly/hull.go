package poly

import (
	"cmp"
	"math"
	"sawmill/api"
	"slices"
)

// Hull returns the corners of the convex hull, counterclockwise.
func Hull(p []api.Point) []api.Point {
	if len(p) < 3 || len(p) > api.MaxPoints || !areInRange(p) {
		return nil
	}
	sorted := slices.Clone(p)
	slices.SortFunc(sorted, func(a, b api.Point) int {
		return cmp.Or(cmp.Compare(a.X, b.X), cmp.Compare(a.Y, b.Y))
	})
	lower := chain(sorted)
	slices.Reverse(sorted)
	upper := chain(sorted)
	// Each of them ends where the other one begins.
	hull := append(lower[:len(lower)-1], upper[:len(upper)-1]...)
	if len(hull) < 3 {
		return nil // all points are on one line
	}
	return hull
}

// chain returns those of the points, which are in the order of X, that remain if the way along them may only turn to the left.
func chain(sorted []api.Point) []api.Point {
	var way []api.Point
	for _, q := range sorted {
		for len(way) >= 2 && cross(way[len(way)-2], way[len(way)-1], q) <= 0 {
			way = way[:len(way)-1]
		}
		way = append(way, q)
	}
	return way
}

// Chord returns the span of the unit columns that lie inside a polygon's hull between two heights.
func Chord(p []api.Point, low, high int) api.Span {
	if low >= high {
		return api.Span{}
	}
	hull := Hull(p)
	// The least and the greatest integer X of the hull at a height; the first one is greater if there is none.
	part := func(y int) api.Span {
		s := api.Span{A: math.MaxInt, B: math.MinInt}
		for a, b := range edges(hull) {
			if a.Y > b.Y {
				a, b = b, a
			}
			// The ends of a horizontal edge are ends of other edges, too.
			if a.Y == b.Y || y < a.Y || y > b.Y {
				continue
			}
			across, rise := (b.X-a.X)*(y-a.Y), b.Y-a.Y
			s.A = min(s.A, a.X-floor(-across, rise))
			s.B = max(s.B, a.X+floor(across, rise))
		}
		return s
	}
	bottom, top := part(low), part(high)
	chord := api.Span{A: max(bottom.A, top.A), B: min(bottom.B, top.B)}
	if chord.A >= chord.B {
		return api.Span{}
	}
	return chord
}

// floor returns n / d, rounded down, for d above 0.
func floor(n, d int) int {
	quotient := n / d
	if n%d < 0 {
		quotient--
	}
	return quotient
}
