package defect_test

import (
	"fmt"
	"math"
	"math/rand"
	"sawmill/api"
	"sawmill/defect"
	"slices"
	"testing"
)

const (
	across = api.MaxCross
	along  = api.MaxLength
	huge   = api.MaxNumber
)

// fail reports an error, with long arguments cut short.
func fail(t *testing.T, format string, args ...any) {
	t.Helper()
	for i, x := range args {
		if s := fmt.Sprint(x); len(s) > 300 {
			args[i] = s[:300] + ".."
		}
	}
	t.Errorf(format, args...)
}

// box returns the box with the ends of X, Y and Z.
func box(a, b, c, d, e, f int) api.Box {
	return api.Box{X: api.Span{A: a, B: b}, Y: api.Span{A: c, B: d}, Z: api.Span{A: e, B: f}}
}

// is returns a defect.
func is(kind, a, b, c, d, e, f int) api.Defect {
	return api.Defect{Kind: kind, Box: box(a, b, c, d, e, f)}
}

// times returns so many equal defects.
func times(count int, d api.Defect) []api.Defect { return slices.Repeat([]api.Defect{d}, count) }

// list returns some defects as a list.
func list(l ...api.Defect) []api.Defect { return l }

// randomSpan returns a span of at most longest mm between low and high.
func randomSpan(random *rand.Rand, low, high, longest int) api.Span {
	a := low + random.Intn(high-low)
	return api.Span{A: a, B: a + 1 + random.Intn(min(longest, high-a))}
}

// randomList returns defects of all kinds whose X and Y are from -reach to reach and whose Z are from 0 to length.
func randomList(random *rand.Rand, count, reach, length int) []api.Defect {
	var l []api.Defect
	for range count {
		b := api.Box{X: randomSpan(random, -reach, reach, reach), Y: randomSpan(random, -reach, reach, 2*reach), Z: randomSpan(random, 0, length, 1+length/3)}
		l = append(l, api.Defect{Kind: 1 + random.Intn(6), Box: b})
	}
	return l
}

// randomBox returns a box in the reach of small lists, or of those that reach the limits.
func randomBox(random *rand.Rand) api.Box {
	reach, length := across, along
	if random.Intn(2) == 0 {
		reach, length = 10, 30
	}
	return api.Box{X: randomSpan(random, -reach, reach, across), Y: randomSpan(random, -reach, reach, across), Z: randomSpan(random, 0, length, length)}
}

// small returns lists whose X and Y are from -10 to 10 and whose Z are from 0 to 30.
func small() [][]api.Defect {
	random := rand.New(rand.NewSource(1))
	l := [][]api.Defect{nil, {}, {is(1, -10, 10, -10, 10, 0, 30)}, {is(2, 0, 1, 0, 1, 0, 1), is(2, 0, 1, 0, 1, 0, 1)}, {is(3, -1, 0, 9, 10, 29, 30)}}
	for range 60 {
		l = append(l, randomList(random, random.Intn(8), 10, 30))
	}
	return l
}

// lists returns small lists, and those that reach the limits.
func lists() [][]api.Defect {
	random := rand.New(rand.NewSource(2))
	l := append(small(), times(64, is(6, -across, across, -across, across, 0, along)), times(64, is(1, across-1, across, -across, 1-across, along-1, along)), list(is(1, -across, 1-across, across-1, across, 0, 1)))
	for range 20 {
		l = append(l, randomList(random, random.Intn(65), across, along))
	}
	return l
}

// notLists returns lists that are not valid, with the error of each.
func notLists() ([][]api.Defect, []api.Errno) {
	good, unknown, empty, far := is(1, 0, 10, 0, 10, 0, 10), is(7, 0, 10, 0, 10, 0, 10), is(1, 0, 10, 5, 5, 0, 10), is(1, 0, across+1, 0, 10, 0, 10)
	var l [][]api.Defect
	var codes []api.Errno
	for _, x := range []struct {
		e     api.Errno
		l     [][]api.Defect
		alone []api.Defect
	}{
		{e: api.ErrLong, l: [][]api.Defect{times(65, good), times(65, unknown), times(65, empty), times(65, far), make([]api.Defect, 100000), append(times(64, good), unknown)}},
		{api.ErrKind, [][]api.Defect{{good, unknown}, {unknown, empty, far}, append(times(63, good), unknown), times(64, unknown)}, []api.Defect{
			{}, unknown, {Kind: 0, Box: good.Box}, {Kind: -1, Box: good.Box}, {Kind: 8, Box: good.Box}, {Kind: math.MinInt, Box: good.Box}, {Kind: math.MaxInt, Box: good.Box}, {Kind: 1<<32 + 1, Box: good.Box}, {Kind: 7, Box: empty.Box}, {Kind: 0, Box: far.Box}, {Kind: 7},
		}},
		{api.ErrShape, [][]api.Defect{{good, empty}, {empty, unknown, far}, append(times(63, good), empty)}, []api.Defect{
			empty, {Kind: 1}, is(6, 5, 5, 0, 10, 0, 10), is(1, 0, 10, 0, 10, 7, 7), is(1, 6, 5, 0, 10, 0, 10), is(1, 0, 10, 10, 0, 0, 10), is(1, 0, 10, 0, 10, 10, 9), is(1, across, -across, 0, 10, 0, 10), is(1, math.MaxInt, math.MinInt, 0, 10, 0, 10), is(1, 0, 10, math.MaxInt, math.MinInt, 0, 10), is(1, 0, 10, 0, 10, math.MaxInt, math.MinInt), is(1, 0, across+1, 5, 5, 0, 10), is(1, -across-1, 0, 0, 10, 5, 5), is(1, 5, 5, 0, 10, -1, 10), is(1, 0, 10, across+1, across+1, 0, 10), is(1, 0, 10, 0, 10, 0, 0),
		}},
		{api.ErrRange, [][]api.Defect{{good, far}, {far, unknown, empty}, append(times(63, good), far)}, []api.Defect{
			far, is(1, -across-1, 0, 0, 10, 0, 10), is(1, 0, 10, 0, across+1, 0, 10), is(1, 0, 10, -across-1, 0, 0, 10), is(1, 0, 10, 0, 10, -1, 10), is(1, 0, 10, 0, 10, 0, along+1), is(1, across, across+1, 0, 10, 0, 10), is(1, 0, 10, -across-2, -across-1, 0, 10), is(1, 0, 10, 0, 10, along, along+1), is(1, 0, 10, 0, 10, -2, -1), is(1, math.MinInt, 0, 0, 10, 0, 10), is(1, 0, math.MaxInt, 0, 10, 0, 10), is(1, 0, 10, math.MinInt, math.MaxInt, 0, 10), is(1, 0, 10, 0, 10, math.MinInt, 10), is(1, 0, 10, 0, 10, 0, math.MaxInt), is(1, math.MinInt, math.MaxInt, math.MinInt, math.MaxInt, math.MinInt, math.MaxInt),
		}},
	} {
		for _, d := range x.alone {
			x.l = append(x.l, list(d))
		}
		for _, d := range x.l {
			l, codes = append(l, d), append(codes, x.e)
		}
	}
	return l, codes
}

func TestCheck(t *testing.T) { // P13.1
	for kind := 1; kind <= 6; kind++ {
		if e := defect.Check(list(is(kind, -across, across, -across, across, 0, along))); e != api.OK {
			fail(t, "Check of the kind %d = %v", kind, e)
		}
	}
	for _, l := range lists() {
		if e := defect.Check(l); e != api.OK {
			fail(t, "Check(%v) = %v", l, e)
		}
	}
	l, codes := notLists()
	for i, x := range l {
		if e := defect.Check(x); e != codes[i] {
			fail(t, "Check(%v) = %v; want %v", x, e, codes[i])
		}
	}
}

func TestNotLists(t *testing.T) { // P13.3, P13.4, P13.6
	l, _ := notLists()
	for _, x := range l {
		if c := defect.Clip(x, box(-across, across, -across, across, 0, along)); len(c) > 0 {
			fail(t, "Clip(%v) = %v", x, c)
		}
		for quarters := range 4 {
			if turned := defect.Turn(x, quarters); len(turned) > 0 {
				fail(t, "Turn(%v, %d) = %v", x, quarters, turned)
			}
		}
		if n := defect.Worst(x, 100); n != 0 {
			fail(t, "Worst(%v, 100) = %d", x, n)
		}
	}
}

// extremes returns ends of spans, at both ends of an int, too.
func extremes() []int {
	return []int{math.MinInt, math.MinInt + 1, -huge - 1, -huge, -1, 0, 1, 9, 10, 11, huge, huge + 1, math.MaxInt - 1, math.MaxInt}
}

// meet reports whether an integer is in both spans.
func meet(a, b api.Span) bool { return a.A < a.B && b.A < b.B && a.A < b.B && b.A < a.B }

func TestTouches(t *testing.T) { // P13.2
	d := is(4, 0, 20, 0, 5, 130, 150)
	for _, x := range []struct {
		b    api.Box
		want bool
	}{
		{d.Box, true}, {box(19, 20, 4, 9, 149, 150), true}, {box(-9, 1, -9, 1, 0, 131), true}, {box(5, 6, 1, 2, 140, 141), true}, {box(-9, 90, -9, 90, 0, 900), true}, {box(math.MinInt, math.MaxInt, math.MinInt, math.MaxInt, math.MinInt, math.MaxInt), true}, {box(math.MinInt, 1, 4, math.MaxInt, 149, math.MaxInt), true},
		{box(20, 30, 0, 5, 130, 150), false}, {box(-9, 0, 0, 5, 130, 150), false}, {box(0, 20, 5, 9, 130, 150), false}, {box(0, 20, -1, 0, 130, 150), false}, {box(0, 20, 0, 5, 150, 151), false}, {box(0, 20, 0, 5, 0, 130), false}, {box(5, 5, 0, 5, 130, 150), false}, {box(0, 20, 3, 3, 130, 150), false}, {box(0, 20, 0, 5, 140, 140), false}, {box(20, 0, 0, 5, 130, 150), false}, {box(20, 0, 5, 0, 130, 150), false}, {api.Box{}, false}, {box(math.MaxInt, math.MinInt, 0, 5, 130, 150), false}, {box(0, 20, 0, 5, math.MaxInt, math.MinInt), false}, {box(0, 20, 0, 5, math.MinInt, math.MinInt), false},
	} {
		if ok := defect.Touches(d, x.b); ok != x.want {
			fail(t, "Touches(%v, %v) = %v", d, x.b, ok)
		}
	}
	// Neither the defect nor the box need be valid.
	for _, a := range extremes() {
		for _, b := range extremes() {
			for _, s := range []api.Span{{A: a, B: b}, {A: b, B: a}, {A: 0, B: 10}, {A: 10, B: 10}} {
				whole, other, one := api.Span{A: math.MinInt, B: math.MaxInt}, api.Span{A: a, B: b}, api.Span{A: 5, B: 6}
				want := meet(s, other)
				for i, boxes := range [][2]api.Box{{{X: s, Y: whole, Z: one}, {X: other, Y: one, Z: whole}}, {{X: one, Y: s, Z: whole}, {X: one, Y: other, Z: one}}, {{X: whole, Y: one, Z: s}, {X: whole, Y: whole, Z: other}}} {
					if defect.Touches(api.Defect{Kind: 99, Box: boxes[0]}, boxes[1]) != want || defect.Touches(api.Defect{Box: boxes[1]}, boxes[0]) != want {
						fail(t, "%d: %v and %v: want %v", i, boxes[0], boxes[1], want)
					}
				}
			}
		}
	}
}

func TestClip(t *testing.T) { // P13.3
	knot, rot := is(1, 10, 30, 0, 5, 100, 140), is(3, 0, 20, 0, 5, 130, 150)
	for _, x := range []struct {
		l    []api.Defect
		b    api.Box
		want []api.Defect
	}{
		{list(knot), box(20, 60, 0, 40, 120, 900), list(is(1, 0, 10, 0, 5, 0, 20))}, {list(knot, rot), box(-5, 60, -5, 40, 0, 900), list(is(1, 15, 35, 5, 10, 100, 140), is(3, 5, 25, 5, 10, 130, 150))}, {list(rot, knot, rot), box(0, 100, 0, 100, 0, 1000), list(rot, knot, rot)}, {list(knot, rot), box(0, 10, 0, 5, 0, 200), list(is(3, 0, 10, 0, 5, 130, 150))}, {list(knot), box(29, 31, 4, 9, 139, 200), list(is(1, 0, 1, 0, 1, 0, 1))}, {list(knot), box(9, 11, -7, 1, 90, 101), list(is(1, 1, 2, 7, 8, 10, 11))},
		{list(knot), box(30, 60, 0, 40, 0, 900), nil}, {list(knot), box(0, 60, 5, 40, 0, 900), nil}, {list(knot), box(0, 60, 0, 40, 140, 900), nil}, {list(knot), box(0, 60, 0, 40, 0, 100), nil}, {nil, box(0, 60, 0, 40, 0, 900), nil},
		{list(knot), box(20, 20, 0, 40, 0, 900), nil}, {list(knot), box(60, 0, 0, 40, 0, 900), nil}, {list(knot), box(0, 60, 3, 3, 0, 900), nil}, {list(knot), box(0, 60, 40, 0, 0, 900), nil}, {list(knot), box(0, 60, 0, 40, 120, 120), nil}, {list(knot), box(0, 60, 0, 40, 900, 0), nil}, {list(knot), api.Box{}, nil},
		{list(knot), box(-huge, huge, -huge, huge, -huge, huge), list(is(1, huge+10, huge+30, huge, huge+5, huge+100, huge+140))}, {list(knot), box(20, huge, 1, huge, 101, huge), list(is(1, 0, 10, 0, 4, 0, 39))},
		{list(knot), box(-huge-1, huge, -huge, huge, -huge, huge), nil}, {list(knot), box(-huge, huge+1, -huge, huge, -huge, huge), nil}, {list(knot), box(-huge, huge, -huge-1, huge, -huge, huge), nil}, {list(knot), box(-huge, huge, -huge, huge+1, -huge, huge), nil}, {list(knot), box(-huge, huge, -huge, huge, -huge-1, huge), nil}, {list(knot), box(-huge, huge, -huge, huge, -huge, huge+1), nil},
		{list(knot), box(math.MinInt, 60, 0, 40, 0, 900), nil}, {list(knot), box(0, math.MaxInt, 0, 40, 0, 900), nil}, {list(knot), box(0, 60, math.MinInt, math.MaxInt, 0, 900), nil}, {list(knot), box(0, 60, 0, 40, math.MinInt, math.MaxInt), nil}, {list(knot), box(0, 60, 0, 40, 0, math.MaxInt), nil}, {list(knot), box(math.MaxInt, math.MinInt, 0, 40, 0, 900), nil},
	} {
		if c := defect.Clip(x.l, x.b); !slices.Equal(c, x.want) {
			fail(t, "Clip(%v, %v) = %v; want %v", x.l, x.b, c, x.want)
		}
	}
}

// spansIn returns the spans that lie from low to high.
func spansIn(low, high int) []api.Span {
	var l []api.Span
	for a := low; a < high; a++ {
		for b := a + 1; b <= high; b++ {
			l = append(l, api.Span{A: a, B: b})
		}
	}
	return l
}

func TestClipParts(t *testing.T) { // P13.3
	// The integers of a part, counted from the corner, are those that are in both spans.
	for _, s := range spansIn(-4, 4) {
		for _, b := range spansIn(-5, 5) {
			var both []int
			for n := s.A; n < s.B; n++ {
				if b.A <= n && n < b.B {
					both = append(both, n-b.A)
				}
			}
			up := func(s api.Span) api.Span { return api.Span{A: s.A + 10, B: s.B + 10} }
			for i, c := range [][]api.Defect{
				defect.Clip(list(api.Defect{Kind: 5, Box: api.Box{X: s, Y: api.Span{B: 7}, Z: api.Span{B: 9}}}), api.Box{X: b, Y: api.Span{B: 7}, Z: api.Span{B: 9}}),
				defect.Clip(list(api.Defect{Kind: 5, Box: api.Box{X: api.Span{B: 7}, Y: s, Z: api.Span{B: 9}}}), api.Box{X: api.Span{B: 7}, Y: b, Z: api.Span{B: 9}}),
				defect.Clip(list(api.Defect{Kind: 5, Box: api.Box{X: api.Span{B: 7}, Y: api.Span{B: 9}, Z: up(s)}}), api.Box{X: api.Span{B: 7}, Y: api.Span{B: 9}, Z: up(b)}),
			} {
				if len(both) == 0 {
					if len(c) > 0 {
						fail(t, "%d: %v and %v: %v", i, s, b, c)
					}
					continue
				}
				part := api.Span{A: both[0], B: both[len(both)-1] + 1}
				want := []api.Box{{X: part, Y: api.Span{B: 7}, Z: api.Span{B: 9}}, {X: api.Span{B: 7}, Y: part, Z: api.Span{B: 9}}, {X: api.Span{B: 7}, Y: api.Span{B: 9}, Z: part}}[i]
				if len(c) != 1 || c[0] != (api.Defect{Kind: 5, Box: want}) {
					fail(t, "%d: %v and %v: %v; want %v", i, s, b, c, want)
				}
			}
		}
	}
}

func TestTurn(t *testing.T) { // P13.4
	l := list(is(1, 10, 30, 0, 5, 100, 140), is(6, -across, -7, 3, across, 0, along))
	turned := [][]api.Defect{l, list(is(1, -5, 0, 10, 30, 100, 140), is(6, -across, -3, -across, -7, 0, along)), list(is(1, -30, -10, -5, 0, 100, 140), is(6, 7, across, -across, -3, 0, along)), list(is(1, 0, 5, -30, -10, 100, 140), is(6, 3, across, 7, across, 0, along))}
	for _, quarters := range []int{0, 1, 2, 3, 4, 5, 6, 7, -1, -2, -3, -4, -5, 1 << 40, 1<<40 + 3, math.MaxInt, math.MaxInt - 1, math.MinInt, math.MinInt + 1} {
		want := turned[((quarters%4)+4)%4]
		if x := defect.Turn(l, quarters); !slices.Equal(x, want) {
			fail(t, "Turn by %d: %v; want %v", quarters, x, want)
		}
	}
	if x := defect.Turn(nil, 1); len(x) > 0 {
		t.Error("Turn of no defects:", x)
	}
}

func TestMeasures(t *testing.T) { // P13.5
	for _, x := range []struct {
		d    api.Defect
		want int
	}{
		{is(1, 10, 30, 0, 5, 0, 9), 20}, {is(1, 10, 30, 0, 50, 0, 9), 50}, {is(2, 10, 30, 0, 20, 0, 900), 20}, {is(9, -5, 5, 7, 7, 0, 9), 10}, {is(1, 5, 5, -1, 7, 0, 0), 8}, {api.Defect{}, 0}, {is(1, 9, 3, 5, 1, 0, 9), 0}, {is(1, -across, across, 0, 1, 0, 9), 1200}, {is(1, math.MinInt, math.MaxInt, 0, 1, 0, 9), math.MaxInt}, {is(1, 0, 1, -2, math.MaxInt, 0, 9), math.MaxInt}, {is(1, 0, 1, 2, math.MaxInt, 0, 9), math.MaxInt - 2}, {is(1, math.MaxInt, math.MinInt, math.MaxInt, math.MinInt, 0, 9), 0}, {is(1, math.MaxInt, math.MinInt, 0, 3, 0, 9), 3},
	} {
		if n := defect.Size(x.d); n != x.want {
			fail(t, "Size(%v) = %d; want %d", x.d, n, x.want)
		}
	}
	bad, _ := notLists()
	for _, l := range append(append(lists(), bad...), list(is(5, math.MinInt, math.MaxInt, 0, 1, 0, 9), is(5, 0, 3, 0, 1, 0, 9), is(0, 0, 7, 0, 1, 0, 9), is(-3, 0, 1, 0, 8, 0, 9), is(-3, 0, 6, 0, 1, 0, 9))) {
		for _, kind := range []int{math.MinInt, -3, -1, 0, 1, 2, 3, 4, 5, 6, 7, 8, math.MaxInt} {
			sizes := []int{}
			for _, d := range l {
				if d.Kind == kind {
					sizes = append(sizes, defect.Size(d))
				}
			}
			if n := defect.Count(l, kind); n != len(sizes) {
				fail(t, "Count(%v, %d) = %d; want %d", l, kind, n, len(sizes))
			}
			if n := defect.Largest(l, kind); n != slices.Max(append(sizes, 0)) {
				fail(t, "Largest(%v, %d) = %d; want the greatest of %v", l, kind, n, sizes)
			}
		}
	}
	if defect.Largest(nil, 1) != 0 || defect.Count(nil, 1) != 0 {
		t.Error("no defects")
	}
}

// three returns the knots of the chapter's example, among defects that are not knots.
func three() []api.Defect {
	return list(is(3, 0, 90, 0, 90, 0, 150), is(1, 0, 10, 0, 10, 0, 10), is(4, 0, 90, 0, 90, 0, 150), is(2, 0, 20, 0, 10, 100, 120), is(5, 0, 90, 0, 90, 0, 150), is(1, 0, 1, 0, 30, 140, 150), is(6, 0, 90, 0, 90, 0, 150))
}

func TestWorst(t *testing.T) { // P13.6
	for _, x := range []struct {
		l            []api.Defect
		window, want int
	}{
		{three(), 100, 50}, {three(), 91, 50}, {three(), 131, 50}, {three(), 132, 60}, {three(), 133, 60}, {three(), 1, 30}, {three(), 21, 30}, {three(), 22, 50}, {three(), along, 60}, {three(), along + 1, 0}, {three(), 0, 0}, {three(), -1, 0}, {three(), math.MinInt, 0}, {three(), math.MaxInt, 0}, {nil, 100, 0},
		// A window may begin before the butt end, and end behind the other end.
		{list(is(1, 0, 7, 0, 2, 0, 1)), along, 7}, {list(is(2, 0, 7, 0, 2, along-1, along)), along, 7}, {list(is(1, 0, 7, 0, 2, 0, 1), is(1, 0, 8, 0, 2, along-1, along)), along, 15}, {list(is(1, 0, 7, 0, 2, 0, 1), is(1, 0, 8, 0, 2, along-1, along)), along - 1, 8},
		{list(is(1, 0, 7, 0, 2, 0, 10), is(2, 0, 5, 0, 2, 10, 20)), 1, 7}, {list(is(1, 0, 7, 0, 2, 0, 10), is(2, 0, 5, 0, 2, 10, 20)), 2, 12}, {list(is(1, 0, 7, 0, 2, 0, 11), is(2, 0, 5, 0, 2, 10, 20)), 1, 12}, {times(3, is(1, 0, 7, 0, 2, 5, 6)), 1, 21}, {times(64, is(2, -across, across, 0, 1, 0, along)), 1, 64 * 1200}, {list(is(3, 0, 7, 0, 2, 0, 10)), 100, 0},
	} {
		if n := defect.Worst(x.l, x.window); n != x.want {
			fail(t, "Worst(%v, %d) = %d; want %d", x.l, x.window, n, x.want)
		}
	}
	for _, l := range small() {
		for window := 1; window <= 40; window++ {
			if n, want := defect.Worst(l, window), worst(l, window); n != want {
				fail(t, "Worst(%v, %d) = %d; want %d", l, window, n, want)
			}
		}
	}
}

// worst looks at all windows that can meet a defect of a small list.
func worst(l []api.Defect, window int) int {
	most := 0
	for z := -window; z <= 30; z++ {
		sum := 0
		for _, d := range l {
			if (d.Kind == 1 || d.Kind == 2) && d.Box.Z.A < z+window && z < d.Box.Z.B {
				sum += defect.Size(d)
			}
		}
		most = max(most, sum)
	}
	return most
}

func TestClipping(t *testing.T) { // P13.7
	random := rand.New(rand.NewSource(3))
	for _, l := range lists() {
		for range 80 {
			b := randomBox(random)
			sides := api.Box{X: api.Span{B: b.X.B - b.X.A}, Y: api.Span{B: b.Y.B - b.Y.A}, Z: api.Span{B: b.Z.B - b.Z.A}}
			clipped := defect.Clip(l, b)
			if e := defect.Check(clipped); e != api.OK {
				fail(t, "Clip(%v, %v) is not valid: %v", l, b, e)
			}
			if again := defect.Clip(clipped, sides); !slices.Equal(again, clipped) {
				fail(t, "Clip(%v, %v) clipped by its sides: %v and %v", l, b, clipped, again)
			}
			c := api.Box{X: randomSpan(random, 0, sides.X.B, across), Y: randomSpan(random, 0, sides.Y.B, across), Z: randomSpan(random, 0, sides.Z.B, along)}
			d := box(b.X.A+c.X.A, b.X.A+c.X.B, b.Y.A+c.Y.A, b.Y.A+c.Y.B, b.Z.A+c.Z.A, b.Z.A+c.Z.B)
			if once, twice := defect.Clip(l, d), defect.Clip(clipped, c); !slices.Equal(once, twice) {
				fail(t, "%v clipped by %v and %v: %v; by %v: %v", l, b, c, twice, d, once)
			}
		}
	}
}

func TestTurning(t *testing.T) { // P13.8
	random := rand.New(rand.NewSource(4))
	for _, l := range lists() {
		for quarters := -4; quarters <= 4; quarters++ {
			turned := defect.Turn(l, quarters)
			if e := defect.Check(turned); e != api.OK || len(turned) != len(l) || !slices.Equal(defect.Turn(turned, -quarters), l) {
				fail(t, "Turn(%v, %d) = %v", l, quarters, turned)
			}
			for i, d := range turned {
				if defect.Size(d) != defect.Size(l[i]) || d.Kind != l[i].Kind || d.Box.Z != l[i].Box.Z {
					fail(t, "%v, turned by %d, is %v", l[i], quarters, d)
				}
			}
			for kind := range 8 {
				if defect.Count(turned, kind) != defect.Count(l, kind) || defect.Largest(turned, kind) != defect.Largest(l, kind) {
					fail(t, "Turn(%v, %d) has other measures of the kind %d", l, quarters, kind)
				}
			}
			for _, window := range []int{1, 7, 100, 5000} {
				if defect.Worst(turned, window) != defect.Worst(l, window) {
					fail(t, "Turn(%v, %d) has another Worst for %d", l, quarters, window)
				}
			}
		}
		if turned := defect.Turn(defect.Turn(defect.Turn(defect.Turn(l, 1), 1), 1), 1); !slices.Equal(turned, l) || !slices.Equal(defect.Turn(defect.Turn(l, 1), 1), defect.Turn(l, 2)) {
			fail(t, "four quarters turn %v into %v", l, turned)
		}
		for range 60 {
			b := randomBox(random)
			turned := b
			turned.X, turned.Y = api.Span{A: -b.Y.B, B: -b.Y.A}, b.X
			var want []api.Defect
			h := b.Y.B - b.Y.A
			for _, d := range defect.Clip(l, b) {
				want = append(want, is(d.Kind, h-d.Box.Y.B, h-d.Box.Y.A, d.Box.X.A, d.Box.X.B, d.Box.Z.A, d.Box.Z.B))
			}
			if c := defect.Clip(defect.Turn(l, 1), turned); !slices.Equal(c, want) {
				fail(t, "%v in %v, turned: %v; want %v", l, b, c, want)
			}
		}
	}
}

func TestWindows(t *testing.T) { // P13.9
	for _, l := range lists() {
		all, greatest := 0, max(defect.Largest(l, 1), defect.Largest(l, 2))
		for _, d := range l {
			if d.Kind == 1 || d.Kind == 2 {
				all += defect.Size(d)
			}
		}
		before := 0
		for _, window := range []int{1, 2, 3, 5, 8, 13, 29, 30, 31, 500, 1000, 5000, 12000, along - 1, along} {
			n := defect.Worst(l, window)
			if n < before || n > all || n < greatest {
				fail(t, "Worst(%v, %d) = %d: with a smaller window %d, all %d, the greatest %d", l, window, n, before, all, greatest)
			}
			before = n
			for i := range l {
				if few := defect.Worst(l[:i], window); few > n || few > defect.Worst(l[:i+1], window) {
					fail(t, "Worst(%v, %d) falls when a defect is added", l, window)
				}
			}
		}
	}
}

func TestArgumentsStay(t *testing.T) { // R3
	// The spare capacity behind the defects belongs to the caller, too.
	whole := append(three(), is(1, 1, 2, 3, 4, 5, 6), is(2, 7, 8, 9, 10, 11, 12))
	before := slices.Clone(whole)
	l, b := whole[:7], box(-across, across, -across, across, 0, along)
	results := func() [][]api.Defect {
		defect.Check(l)
		defect.Count(l, 1)
		defect.Largest(l, 1)
		defect.Worst(l, 100)
		return [][]api.Defect{defect.Clip(l, b), defect.Clip(l, box(0, 20, 0, 20, 0, 200)), defect.Turn(l, 0), defect.Turn(l, 4), defect.Turn(l, 1)}
	}
	first, second := results(), results()
	for _, result := range first {
		for i := range result {
			result[i] = api.Defect{Kind: -1}
		}
	}
	if !slices.Equal(whole, before) {
		fail(t, "%v became %v", before, whole)
	}
	for i, result := range results() {
		if !slices.Equal(result, second[i]) {
			fail(t, "result %d: %v became %v", i, second[i], result)
		}
	}
}
