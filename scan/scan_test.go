package scan_test

import (
	"fmt"
	"math"
	"math/rand"
	"sawmill/api"
	"sawmill/defect"
	"sawmill/poly"
	"sawmill/ring"
	"sawmill/scan"
	"sawmill/section"
	"sawmill/solid"
	"slices"
	"testing"
)

const most = api.MaxCross

// fail reports an error, with long arguments cut short.
func fail(t *testing.T, format string, args ...any) {
	t.Helper()
	for i, x := range args {
		if s := fmt.Sprint(x); len(s) > 300 {
			args[i] = s[:300] + ".."
		}
	}
	t.Errorf(format, args...)
}

// example returns the scan of the chapter's examples, with rings at other distances.
func example(z ...int) api.Scan {
	var s api.Scan
	for _, n := range z {
		r := api.Ring{Z: n}
		for _, p := range [8]api.Point{{X: -50, Y: -20}, {Y: -20}, {X: 50, Y: -20}, {X: 50}, {X: 50, Y: 20}, {Y: 20}, {X: -50, Y: 20}, {X: -50}} {
			r.Read = append(r.Read, api.Reading{P: p, Ok: true})
		}
		s.Rings = append(s.Rings, r)
	}
	return s
}

// clone returns a scan that shares no memory with another one.
func clone(s api.Scan) api.Scan {
	c := api.Scan{Defects: slices.Clone(s.Defects)}
	for _, r := range s.Rings {
		c.Rings = append(c.Rings, api.Ring{Z: r.Z, Read: slices.Clone(r.Read)})
	}
	return c
}

// with returns a scan in which a reading of a ring is another one.
func with(s api.Scan, r, i int, x api.Reading) api.Scan {
	s = clone(s)
	s.Rings[r].Read[i] = x
	return s
}

// at returns a scan with a reading of a ring at another point.
func at(s api.Scan, r, i, x, y int) api.Scan {
	return with(s, r, i, api.Reading{P: api.Point{X: x, Y: y}, Ok: true})
}

// gap returns a scan with a gap.
func gap(s api.Scan, r, i int) api.Scan { return with(s, r, i, api.Reading{}) }

// moved returns a scan with a ring at another distance.
func moved(s api.Scan, r, z int) api.Scan {
	s = clone(s)
	s.Rings[r].Z = z
	return s
}

// fewer returns a scan with fewer readings in a ring.
func fewer(s api.Scan, r, count int) api.Scan {
	s = clone(s)
	s.Rings[r].Read = s.Rings[r].Read[:count]
	return s
}

// more returns a scan with more readings in a ring, all of them the same.
func more(s api.Scan, r, count int, x api.Reading) api.Scan {
	s = clone(s)
	s.Rings[r].Read = append(s.Rings[r].Read, slices.Repeat([]api.Reading{x}, count)...)
	return s
}

// marked returns a scan with defects.
func marked(s api.Scan, l ...api.Defect) api.Scan {
	s = clone(s)
	s.Defects = slices.Clone(l)
	return s
}

// knot returns a knot with X 10 to 20, Y 0 to 10 and some Z.
func knot(a, b int) api.Defect {
	return api.Defect{Kind: api.DfKnot, Box: api.Box{X: api.Span{A: 10, B: 20}, Y: api.Span{B: 10}, Z: api.Span{A: a, B: b}}}
}

// knots returns so many equal knots.
func knots(count, a, b int) []api.Defect { return slices.Repeat([]api.Defect{knot(a, b)}, count) }

// same compares two scans field by field.
func same(a, b api.Scan) bool {
	if len(a.Rings) != len(b.Rings) || !slices.Equal(a.Defects, b.Defects) {
		return false
	}
	for i := range a.Rings {
		if a.Rings[i].Z != b.Rings[i].Z || !slices.Equal(a.Rings[i].Read, b.Rings[i].Read) {
			return false
		}
	}
	return true
}

// randomScan returns a scan of a log of any shape whose readings are gaps more or less often.
func randomScan(random *rand.Rand) api.Scan {
	var s api.Scan
	count, lack := 8+random.Intn(25), random.Intn(12)-6
	reach := []int{3, 60, most}[random.Intn(3)]
	z := 0
	for range 2 + random.Intn(23) {
		r := api.Ring{Z: z}
		for i := range count {
			angle, radius := 2*math.Pi*float64(i)/float64(count), float64(reach)*(0.7+0.3*random.Float64())
			x := api.Reading{P: api.Point{X: int(radius * math.Cos(angle)), Y: int(radius * math.Sin(angle))}, Ok: true}
			if random.Intn(20) == 0 {
				x.P = api.Point{X: random.Intn(2*most+1) - most, Y: random.Intn(2*most+1) - most}
			}
			if random.Intn(20) < lack {
				x = api.Reading{}
			}
			r.Read = append(r.Read, x)
		}
		s.Rings = append(s.Rings, r)
		z += 1 + random.Intn([]int{3, 850}[random.Intn(2)])
	}
	s.Defects = randomDefects(random, s.Rings[len(s.Rings)-1].Z)
	return s
}

// randomDefects returns defects along a length.
func randomDefects(random *rand.Rand, length int) []api.Defect {
	part := func(low, high int) api.Span {
		a := low + random.Intn(high-low)
		return api.Span{A: a, B: a + 1 + random.Intn(high-a)}
	}
	var l []api.Defect
	for range random.Intn([]int{2, 10, 65}[random.Intn(3)]) {
		l = append(l, api.Defect{Kind: 1 + random.Intn(6), Box: api.Box{X: part(-most, most), Y: part(-most, most), Z: part(0, length)}})
	}
	return l
}

// scans returns scans, among them those that reach the limits.
func scans() []api.Scan {
	s := example(0, 1000)
	var far []int
	for i := range 24 {
		far = append(far, i*api.MaxLength/23)
	}
	all := example(0, 1)
	for r := range all.Rings {
		all.Rings[r].Read = make([]api.Reading, 8+24*r)
	}
	all.Rings[0].Read = make([]api.Reading, 32)
	l := []api.Scan{s, example(0, 1), example(0, api.MaxLength), example(far...), marked(s, knots(64, 999, 1000)...), marked(s, knot(0, 1000), knot(0, 1), knot(0, 1)), gap(s, 0, 1), gap(gap(s, 0, 0), 1, 7), more(more(s, 0, 24, api.Reading{}), 1, 24, api.Reading{}), all, at(s, 1, 3, most, -most)}
	for _, kind := range []int{1, 2, 3, 4, 5, 6} {
		d := api.Defect{Kind: kind, Box: api.Box{X: api.Span{A: -most, B: most}, Y: api.Span{A: -most, B: most}, Z: api.Span{B: 1000}}}
		l = append(l, marked(s, d))
	}
	random := rand.New(rand.NewSource(1))
	for range 120 {
		l = append(l, randomScan(random))
	}
	return l
}

// notScans returns scans that are not valid, with the error of each.
func notScans() ([]api.Scan, []api.Errno) {
	s := example(0, 1000, 1600)
	none, bad, far := api.Reading{}, api.Reading{P: api.Point{X: 5}}, api.Reading{P: api.Point{X: most + 1}, Ok: true}
	unknown, flat, wide, late := knot(0, 10), knot(10, 10), knot(0, 10), knot(1500, 1601)
	unknown.Kind, wide.Box.X.B = 7, most+1
	var l []api.Scan
	var codes []api.Errno
	for _, x := range []struct {
		e api.Errno
		l []api.Scan
	}{
		{api.ErrShort, []api.Scan{{}, {Rings: []api.Ring{}}, example(0), example(5), {Rings: make([]api.Ring, 1)}, marked(example(0), unknown), {Defects: knots(65, 0, 10)}, with(example(0), 0, 0, bad), fewer(s, 0, 7), fewer(s, 1, 7), fewer(s, 2, 0), fewer(moved(s, 0, 1), 0, 7), fewer(moved(s, 1, -1), 1, 7), marked(fewer(s, 2, 7), unknown), {Rings: make([]api.Ring, 24)}, {Rings: []api.Ring{{}, {Z: -1}}}}},
		{api.ErrLong, []api.Scan{{Rings: make([]api.Ring, 25)}, example(make([]int, 25)...), marked(example(make([]int, 25)...), unknown), {Rings: make([]api.Ring, 100000)}, more(s, 0, 25, none), more(s, 2, 25, none), more(moved(s, 1, -1), 1, 25, far), marked(s, knots(65, 0, 10)...), marked(s, append(knots(64, 0, 10), unknown)...), marked(s, slices.Repeat([]api.Defect{late}, 65)...)}},
		{api.ErrRange, []api.Scan{moved(s, 1, -1), moved(s, 0, -1), moved(s, 2, api.MaxLength+1), moved(s, 2, math.MaxInt), moved(s, 1, math.MinInt), with(s, 0, 3, far), with(s, 2, 7, far), with(with(s, 1, 3, far), 1, 4, bad), with(moved(s, 1, 0), 1, 3, far), more(moved(s, 0, 5), 0, 1, far), moved(more(s, 1, 1, none), 1, -1), marked(s, late), marked(s, knot(0, 10), late), marked(s, knot(0, 10), knot(1600, 1601)), marked(s, wide), marked(s, late, wide), marked(s, late, knot(0, 10)), marked(s, knot(0, math.MaxInt)), marked(example(0, api.MaxLength), knot(0, api.MaxLength+1)), marked(example(0, 1), knot(0, 2)), marked(s, knot(-1, 5))}},
		{api.ErrOrder, []api.Scan{moved(s, 0, 1), moved(s, 0, api.MaxLength), moved(s, 1, 0), moved(s, 2, 1000), moved(s, 2, 999), moved(s, 2, 0), moved(s, 1, 1600), example(0, 0), example(0, 0, 1000), example(1, 2), example(1000, 0), fewer(moved(s, 0, 1), 1, 0), more(moved(s, 1, 0), 1, 1, none), with(moved(s, 1, 0), 2, 0, bad), marked(moved(s, 1, 0), unknown)}},
		{api.ErrShape, []api.Scan{more(s, 0, 1, none), more(s, 1, 1, none), more(s, 2, 24, none), more(more(s, 0, 2, none), 1, 1, none), more(more(s, 0, 2, none), 1, 2, none), with(s, 0, 0, bad), with(s, 1, 3, bad), with(s, 2, 7, bad), with(with(s, 1, 3, bad), 1, 4, far), with(moved(s, 1, 0), 1, 0, bad), more(moved(s, 2, 0), 1, 1, none), with(more(s, 1, 1, none), 2, 0, far), marked(more(s, 2, 1, none), unknown), marked(s, flat), marked(s, late, flat), marked(s, flat, unknown)}},
		{api.ErrKind, []api.Scan{marked(s, unknown), marked(s, api.Defect{}), marked(s, knot(0, 10), unknown), marked(s, late, unknown), marked(s, unknown, flat)}},
	} {
		for _, s := range x.l {
			l, codes = append(l, s), append(codes, x.e)
		}
	}
	return l, codes
}

func TestCheck(t *testing.T) { // P15.1
	for _, s := range scans() {
		if e := scan.Check(s); e != api.OK {
			fail(t, "Check(%v) = %v", s, e)
		}
	}
	l, codes := notScans()
	for i, s := range l {
		if e := scan.Check(s); e != codes[i] {
			fail(t, "%d: Check(%v) = %v; want %v", i, s, e, codes[i])
		}
	}
}

// block returns so many equal rows.
func block(low, count, a, b int) api.Section {
	return api.Section{Low: low, Rows: slices.Repeat([]api.Span{{A: a, B: b}}, count)}
}

// sameSolid compares two lists of slices field by field.
func sameSolid(a, b []api.Slice) bool {
	return slices.EqualFunc(a, b, func(x, y api.Slice) bool {
		return x.Len == y.Len && x.Sec.Low == y.Sec.Low && slices.Equal(x.Sec.Rows, y.Sec.Rows)
	})
}

// each returns a scan in which the points of a ring that are not gaps have been changed.
func each(s api.Scan, r int, change func(p api.Point) api.Point) api.Scan {
	s = clone(s)
	for i, x := range s.Rings[r].Read {
		if x.Ok {
			s.Rings[r].Read[i].P = change(x.P)
		}
	}
	return s
}

func TestBuild(t *testing.T) { // P15.2
	s := example(0, 1000)
	three := example(0, 1000, 1600)
	full := api.Slice{Len: 1000, Sec: block(-2, 4, -50, 50)}
	narrow := each(three, 1, func(p api.Point) api.Point { return api.Point{X: max(p.X, -30), Y: min(p.Y, 10)} })
	right := func(p api.Point) api.Point { return api.Point{X: p.X + 100, Y: p.Y} }
	above := func(p api.Point) api.Point { return api.Point{X: p.X, Y: p.Y + 40} }
	line := func(p api.Point) api.Point { return api.Point{X: p.X} }
	thin := func(p api.Point) api.Point { return api.Point{X: p.X, Y: p.Y / 5} }
	for i, x := range []struct {
		s           api.Scan
		limit, most int
		want        []api.Slice
		e           api.Errno
	}{
		{s, -1, 0, []api.Slice{full}, api.OK}, {s, math.MinInt, math.MinInt, []api.Slice{full}, api.OK}, {s, math.MaxInt, math.MaxInt, []api.Slice{full}, api.OK}, {s, 50, -1, []api.Slice{full}, api.OK}, {marked(s, knot(0, 1000)), -1, 0, []api.Slice{full}, api.OK}, {three, -1, 0, []api.Slice{full, {Len: 600, Sec: full.Sec}}, api.OK},
		{narrow, -1, 0, []api.Slice{{Len: 1000, Sec: block(-2, 3, -30, 50)}, {Len: 600, Sec: block(-2, 3, -30, 50)}}, api.OK}, {each(three, 2, func(p api.Point) api.Point { return api.Point{X: min(p.X, 7), Y: p.Y} }), -1, 0, []api.Slice{full, {Len: 600, Sec: block(-2, 4, -50, 7)}}, api.OK}, {each(three, 0, func(p api.Point) api.Point { return api.Point{X: p.X, Y: max(p.Y, -15)} }), -1, 0, []api.Slice{{Len: 1000, Sec: block(-1, 3, -50, 50)}, {Len: 600, Sec: full.Sec}}, api.OK},
		// Gaps are repaired if their runs are short enough, and outliers are gaps.
		{gap(s, 0, 1), -1, 0, nil, api.ErrScan}, {gap(s, 0, 1), -1, 1, []api.Slice{full}, api.OK}, {gap(s, 1, 1), -1, 0, nil, api.ErrScan}, {gap(s, 1, 1), -1, 1, []api.Slice{full}, api.OK}, {gap(gap(s, 0, 4), 0, 5), -1, 1, nil, api.ErrScan}, {gap(gap(s, 0, 4), 0, 3), -1, 2, []api.Slice{{Len: 1000, Sec: api.Section{Low: -2, Rows: []api.Span{{A: -50, B: 37}, {A: -50, B: 25}, {A: -50, B: 12}, {A: -50, B: 0}}}}}, api.OK},
		{at(s, 0, 1, 0, -600), 100, 1, []api.Slice{full}, api.OK}, {at(s, 0, 1, 0, -600), 100, 0, nil, api.ErrScan}, {at(s, 0, 1, 0, -600), -1, 0, []api.Slice{full}, api.OK}, {at(s, 0, 1, 0, 19), 38, 1, []api.Slice{full}, api.OK}, {at(s, 0, 1, 0, 19), 38, 0, nil, api.ErrScan}, {s, 49, 8, []api.Slice{full}, api.OK}, {s, 19, 8, nil, api.ErrScan}, {at(at(s, 0, 1, 0, -600), 1, 1, 0, -600), 1199, 0, []api.Slice{{Len: 1000, Sec: solidOf(at(s, 0, 1, 0, -600), 0)}}, api.OK}, {at(at(s, 0, 1, 0, -600), 1, 1, 0, -600), 579, 1, []api.Slice{full}, api.OK},
		// There may be no section, or no common part.
		{each(s, 0, line), -1, 0, nil, api.ErrScan}, {each(s, 1, line), -1, 0, nil, api.ErrScan}, {each(s, 1, thin), -1, 0, nil, api.ErrScan}, {each(s, 1, right), -1, 0, nil, api.ErrScan}, {each(s, 1, above), -1, 0, nil, api.ErrScan}, {each(three, 2, right), -1, 0, nil, api.ErrScan}, {each(each(s, 0, right), 1, right), -1, 0, []api.Slice{{Len: 1000, Sec: block(-2, 4, 50, 150)}}, api.OK}, {each(s, 1, func(p api.Point) api.Point { return api.Point{X: p.X + 99, Y: p.Y} }), -1, 0, []api.Slice{{Len: 1000, Sec: block(-2, 4, 49, 50)}}, api.OK}, {gap(each(s, 1, right), 0, 1), -1, 1, nil, api.ErrScan},
	} {
		if l, e := scan.Build(x.s, x.limit, x.most); !sameSolid(l, x.want) || e != x.e {
			fail(t, "%d: Build(%v, %d, %d) = %v, %v; want %v, %v", i, x.s, x.limit, x.most, l, e, x.want, x.e)
		}
	}
	l, codes := notScans()
	for i, s := range l {
		for _, limit := range []int{-1, 100} {
			if l, e := scan.Build(s, limit, 8); len(l) > 0 || e != codes[i] {
				fail(t, "Build(%v, %d, 8) = %v, %v; want %v", s, limit, l, e, codes[i])
			}
		}
	}
}

// solidOf returns the section of the points of a ring without gaps.
func solidOf(s api.Scan, r int) api.Section {
	var p []api.Point
	for _, x := range s.Rings[r].Read {
		p = append(p, x.P)
	}
	sec, _ := section.Of(p)
	return sec
}

// built composes the solid of a valid scan.
func built(s api.Scan, limit, most int) ([]api.Slice, api.Errno) {
	var l []api.Slice
	var before api.Section
	for i, r := range s.Rings {
		points, e := ring.Repair(ring.Clean(r, limit), most)
		sec, f := section.Of(points)
		if e != api.OK || f != api.OK {
			return nil, api.ErrScan
		}
		if i > 0 {
			l = append(l, api.Slice{Len: r.Z - s.Rings[i-1].Z, Sec: section.Meet(before, sec)})
		}
		before = sec
	}
	if solid.Check(l) != api.OK {
		return nil, api.ErrScan
	}
	return l, api.OK
}

func TestSolids(t *testing.T) { // P15.2
	worked := 0
	for _, s := range scans() {
		for _, limit := range []int{-1, 40, 400} {
			for _, most := range []int{-1, 0, 1, 5} {
				l, e := scan.Build(s, limit, most)
				want, code := built(s, limit, most)
				if !sameSolid(l, want) || e != code {
					fail(t, "Build(%v, %d, %d) = %v, %v; want %v, %v", s, limit, most, l, e, want, code)
				}
				if e == api.OK {
					worked++
				}
				if e == api.OK && (solid.Check(l) != api.OK || len(l) != len(s.Rings)-1 || solid.Length(l) != s.Rings[len(l)].Z) {
					fail(t, "Build(%v, %d, %d) is no solid: %v", s, limit, most, l)
				}
			}
		}
	}
	if worked < 500 {
		t.Error("only", worked, "solids could be built")
	}
}

func TestTurn(t *testing.T) { // P15.3
	s := marked(gap(example(0, 1000), 1, 2), knot(0, 100), api.Defect{Kind: api.DfRot, Box: api.Box{X: api.Span{A: -7, B: 9}, Y: api.Span{A: 3, B: most}, Z: api.Span{B: 1000}}})
	want := clone(s)
	for i, p := range []api.Point{{X: 20, Y: -50}, {X: 20}, {X: 20, Y: 50}, {Y: 50}, {X: -20, Y: 50}, {X: -20}, {X: -20, Y: -50}, {Y: -50}} {
		want.Rings[0].Read[i].P, want.Rings[1].Read[i].P = p, p
	}
	want.Rings[1].Read[2] = api.Reading{}
	want.Defects[0].Box.X, want.Defects[0].Box.Y = api.Span{A: -10, B: 0}, api.Span{A: 10, B: 20}
	want.Defects[1].Box.X, want.Defects[1].Box.Y = api.Span{A: -most, B: -3}, api.Span{A: -7, B: 9}
	for _, quarters := range []int{1, 5, -3, 1<<40 + 1, math.MaxInt - 2} {
		if x := scan.Turn(s, quarters); !same(x, want) {
			fail(t, "Turn by %d: %v; want %v", quarters, x, want)
		}
	}
	for _, s := range scans() {
		for _, quarters := range []int{math.MinInt, -2, -1, 0, 1, 2, 3, 4, 6, math.MaxInt} {
			want := api.Scan{Defects: defect.Turn(s.Defects, quarters)}
			for _, r := range s.Rings {
				want.Rings = append(want.Rings, ring.Turn(r, quarters))
			}
			if x := scan.Turn(s, quarters); !same(x, want) {
				fail(t, "Turn(%v, %d) = %v; want %v", s, quarters, x, want)
			}
		}
	}
	l, _ := notScans()
	for _, s := range l {
		for _, quarters := range []int{0, 1, -1, 2} {
			if x := scan.Turn(s, quarters); !same(x, s) {
				fail(t, "Turn(%v, %d) = %v", s, quarters, x)
			}
		}
	}
}

func TestMerge(t *testing.T) { // P15.4
	s := example(0, 1000)
	other := at(at(s, 0, 1, 1, 2), 1, 2, 3, 4)
	none := api.Reading{}
	a, b, c := knot(0, 100), knot(200, 300), knot(0, 101)
	rot := a
	rot.Kind = api.DfRot
	nine := more(more(s, 0, 1, none), 1, 1, none)
	for i, x := range []struct {
		a, b, want api.Scan
		e          api.Errno
	}{
		{s, s, s, api.OK}, {s, other, s, api.OK}, {other, s, other, api.OK}, {gap(s, 0, 1), other, at(s, 0, 1, 1, 2), api.OK}, {gap(s, 1, 2), other, at(s, 1, 2, 3, 4), api.OK}, {gap(gap(s, 0, 1), 1, 2), gap(s, 0, 1), gap(s, 0, 1), api.OK}, {gap(s, 0, 1), gap(s, 0, 2), s, api.OK},
		{marked(s, a, b), marked(s, b, a), marked(s, a, b), api.OK}, {marked(s, a), marked(s, a, b, b), marked(s, a, b, b), api.OK}, {marked(s, a, a), s, marked(s, a, a), api.OK}, {s, marked(s, b, a, b), marked(s, b, a, b), api.OK}, {marked(s, a, a), marked(s, a, a, a), marked(s, a, a), api.OK}, {marked(s, b), marked(s, c, b, a, c), marked(s, b, c, a, c), api.OK}, {marked(s, a), marked(s, rot, c), marked(s, a, rot, c), api.OK}, {marked(s, b, a, b), marked(s, c, rot, b), marked(s, b, a, b, c, rot), api.OK},
		{marked(s, knots(60, 0, 50)...), marked(s, knots(4, 0, 60)...), marked(s, append(knots(60, 0, 50), knots(4, 0, 60)...)...), api.OK}, {marked(s, knots(60, 0, 50)...), marked(s, knots(5, 0, 60)...), api.Scan{}, api.ErrLong}, {marked(s, knots(64, 0, 50)...), marked(s, knots(64, 0, 50)...), marked(s, knots(64, 0, 50)...), api.OK}, {marked(s, knots(64, 0, 50)...), marked(s, a), api.Scan{}, api.ErrLong}, {marked(s, a), marked(s, knots(64, 0, 50)...), api.Scan{}, api.ErrLong}, {s, marked(s, knots(64, 0, 50)...), marked(s, knots(64, 0, 50)...), api.OK}, {marked(s, a), marked(s, append(knots(63, 0, 50), a)...), marked(s, append(list(a), knots(63, 0, 50)...)...), api.OK},
		{s, example(0, 999), api.Scan{}, api.ErrShape}, {s, example(0, 500, 1000), api.Scan{}, api.ErrShape}, {example(0, 500, 1000), s, api.Scan{}, api.ErrShape}, {example(0, 500, 1000), example(0, 501, 1000), api.Scan{}, api.ErrShape}, {s, example(0, 1000, 1500), api.Scan{}, api.ErrShape}, {example(0, 1000, 1500), s, api.Scan{}, api.ErrShape}, {s, nine, api.Scan{}, api.ErrShape}, {nine, s, api.Scan{}, api.ErrShape}, {nine, nine, nine, api.OK}, {marked(s, knots(60, 0, 50)...), marked(nine, knots(60, 0, 60)...), api.Scan{}, api.ErrShape}, {marked(s, knots(60, 0, 50)...), marked(example(0, 999), knots(60, 0, 60)...), api.Scan{}, api.ErrShape},
		{s, api.Scan{}, api.Scan{}, api.ErrShort}, {api.Scan{}, s, api.Scan{}, api.ErrShort}, {moved(s, 0, 1), api.Scan{}, api.Scan{}, api.ErrOrder}, {api.Scan{}, moved(s, 0, 1), api.Scan{}, api.ErrShort}, {example(0, 500, 1000), moved(s, 0, 1), api.Scan{}, api.ErrOrder},
	} {
		if m, e := scan.Merge(x.a, x.b); !same(m, x.want) || e != x.e {
			fail(t, "%d: Merge(%v, %v) = %v, %v; want %v, %v", i, x.a, x.b, m, e, x.want, x.e)
		}
	}
	l, codes := notScans()
	for i, x := range l {
		if m, e := scan.Merge(x, s); !same(m, api.Scan{}) || e != codes[i] {
			fail(t, "Merge(%v, a scan) = %v, %v", x, m, e)
		}
		if m, e := scan.Merge(s, x); !same(m, api.Scan{}) || e != codes[i] {
			fail(t, "Merge(a scan, %v) = %v, %v", x, m, e)
		}
	}
}

func list(l ...api.Defect) []api.Defect { return l }

func TestSame(t *testing.T) { // P15.7
	s := marked(gap(example(0, 1000), 1, 2), knot(0, 100), knot(200, 300))
	changed := func(change func(d *api.Defect)) api.Scan {
		x := clone(s)
		change(&x.Defects[1])
		return x
	}
	for i, x := range []api.Scan{{}, moved(s, 1, 999), moved(s, 0, 1), at(s, 0, 0, -50, -21), at(s, 1, 7, -51, 0), gap(s, 0, 0), with(s, 0, 7, api.Reading{P: s.Rings[0].Read[7].P}), at(s, 1, 2, 0, 0), with(s, 1, 2, api.Reading{P: api.Point{X: 1}}), fewer(s, 1, 7), more(s, 0, 1, api.Reading{}), {Rings: s.Rings}, {Defects: s.Defects}, {Rings: s.Rings[:1], Defects: s.Defects}, {Rings: s.Rings[1:], Defects: s.Defects}, {Rings: []api.Ring{s.Rings[1], s.Rings[0]}, Defects: s.Defects}, {Rings: append(clone(s).Rings, s.Rings[1]), Defects: s.Defects}, marked(s, knot(0, 100)), marked(s, knot(200, 300), knot(0, 100)), marked(s, knot(0, 100), knot(200, 300), knot(200, 300)), changed(func(d *api.Defect) { d.Kind = 2 }), changed(func(d *api.Defect) { d.Box.X.A++ }), changed(func(d *api.Defect) { d.Box.X.B++ }), changed(func(d *api.Defect) { d.Box.Y.A++ }), changed(func(d *api.Defect) { d.Box.Y.B++ }), changed(func(d *api.Defect) { d.Box.Z.A++ }), changed(func(d *api.Defect) { d.Box.Z.B++ })} {
		if scan.Same(s, x) || scan.Same(x, s) || !scan.Same(x, clone(x)) || !scan.Same(clone(x), x) {
			fail(t, "%d: Same of %v", i, x)
		}
	}
	if !scan.Same(api.Scan{}, api.Scan{Rings: []api.Ring{}, Defects: []api.Defect{}}) || !scan.Same(api.Scan{Rings: []api.Ring{{Read: []api.Reading{}}}}, api.Scan{Rings: []api.Ring{{}}}) {
		t.Error("an empty slice may be nil or not")
	}
	bad, _ := notScans()
	all := append(scans(), bad...)
	for i, a := range all {
		if !scan.Same(a, clone(a)) {
			fail(t, "%v is not the same as itself", a)
		}
		if b := all[(i+1)%len(all)]; scan.Same(a, b) != same(a, b) {
			fail(t, "Same(%v, %v) = %v", a, b, scan.Same(a, b))
		}
	}
}

// withoutGaps returns the scans without gaps.
func withoutGaps() []api.Scan {
	return slices.DeleteFunc(scans(), func(s api.Scan) bool {
		return slices.ContainsFunc(s.Rings, func(r api.Ring) bool {
			gaps, _ := ring.Gaps(r)
			return gaps > 0
		})
	})
}

func TestInside(t *testing.T) { // P15.8
	for _, s := range withoutGaps() {
		l, _ := scan.Build(s, -1, 0)
		for i, slice := range l {
			for _, r := range s.Rings[i : i+2] {
				points, _ := ring.Repair(r, 0)
				hull := poly.Hull(points)
				for k, row := range slice.Sec.Rows {
					y := 10 * (slice.Sec.Low + k)
					for _, corner := range []api.Point{{X: row.A, Y: y}, {X: row.B, Y: y}, {X: row.A, Y: y + 10}, {X: row.B, Y: y + 10}} {
						if row.A < row.B && !poly.Has(hull, corner) {
							fail(t, "the slice %d of %v has %v, which is not in the hull of the ring at %d", i, s, corner, r.Z)
						}
					}
				}
			}
		}
	}
}

func TestTurning(t *testing.T) { // P15.9
	for _, s := range scans() {
		for quarters := range 5 {
			if e := scan.Check(scan.Turn(s, quarters)); e != api.OK {
				fail(t, "Turn(%v, %d) is not valid: %v", s, quarters, e)
			}
		}
		if x := scan.Turn(scan.Turn(s, 1), 3); !same(x, s) {
			fail(t, "turned by 1 and by 3, %v is %v", s, x)
		}
	}
	solids := 0
	for _, s := range withoutGaps() {
		l, e := scan.Build(s, -1, 0)
		turned, f := scan.Build(scan.Turn(s, 2), -1, 0)
		var want []api.Slice
		for _, slice := range l {
			want = append(want, api.Slice{Len: slice.Len, Sec: section.Flip(section.Mirror(slice.Sec))})
		}
		if e != f || !sameSolid(turned, want) {
			fail(t, "turned by 2, %v becomes %v, %v; want %v, %v", s, turned, f, want, e)
		}
		if e == api.OK {
			solids++
		}
	}
	if solids < 20 {
		t.Error("only", solids, "solids have been turned")
	}
}

func TestTwoPasses(t *testing.T) { // P15.10
	random := rand.New(rand.NewSource(2))
	for _, a := range scans() {
		if m, e := scan.Merge(a, a); !same(m, a) || e != api.OK {
			fail(t, "Merge of %v with itself: %v, %v", a, m, e)
		}
		b := marked(a)
		for r := range b.Rings {
			for i := range b.Rings[r].Read {
				x := api.Reading{P: api.Point{X: random.Intn(100), Y: random.Intn(100)}, Ok: true}
				if random.Intn(2) == 0 {
					x = api.Reading{}
				}
				b.Rings[r].Read[i] = x
			}
		}
		m, e := scan.Merge(a, b)
		if e != api.OK || scan.Check(m) != api.OK || !slices.Equal(m.Defects, a.Defects) {
			fail(t, "Merge(%v, %v) = %v, %v", a, b, m, e)
			continue
		}
		for i, r := range m.Rings {
			gaps, _ := ring.Gaps(r)
			first, _ := ring.Gaps(a.Rings[i])
			second, _ := ring.Gaps(b.Rings[i])
			if gaps > min(first, second) {
				fail(t, "the ring %d of Merge(%v, %v) has %d gaps", i, a, b, gaps)
			}
		}
	}
}

// spoil changes everything that can be reached through a scan.
func spoil(s api.Scan) {
	for i := range s.Rings {
		for k := range s.Rings[i].Read {
			s.Rings[i].Read[k] = api.Reading{P: api.Point{X: -7}}
		}
		s.Rings[i] = api.Ring{Z: -7}
	}
	for i := range s.Defects {
		s.Defects[i] = api.Defect{Kind: -7}
	}
}

func TestArgumentsStay(t *testing.T) { // R3
	for _, s := range []api.Scan{marked(gap(example(0, 1000, 1600), 1, 2), knot(0, 100), knot(200, 300)), marked(example(0, 0), knot(0, 100))} {
		// The spare capacity behind the lists belongs to the caller, too.
		whole := marked(s, append(slices.Clone(s.Defects), knot(1, 2))...)
		whole.Rings = append(whole.Rings, api.Ring{Z: 9})
		for i := range whole.Rings {
			whole.Rings[i].Read = append(whole.Rings[i].Read, api.Reading{P: api.Point{X: 3}})
		}
		kept := clone(whole)
		short := api.Scan{Defects: whole.Defects[:len(s.Defects)]}
		for _, r := range whole.Rings[:len(s.Rings)] {
			short.Rings = append(short.Rings, api.Ring{Z: r.Z, Read: r.Read[:len(r.Read)-1]})
		}
		other := marked(s, knot(7, 8))
		results := func() []api.Scan {
			scan.Check(short)
			scan.Same(short, other)
			l, _ := scan.Build(short, 100, 5)
			for i := range l {
				l[i].Sec.Rows[0] = api.Span{}
			}
			text, _ := scan.Encode(short)
			decoded, _ := scan.Decode(text)
			with, _ := scan.Merge(short, other)
			into, _ := scan.Merge(other, short)
			return []api.Scan{scan.Turn(short, 0), scan.Turn(short, 4), scan.Turn(short, 1), decoded, with, into}
		}
		first, second := results(), results()
		for _, result := range first {
			for i := range result.Rings {
				behind := clone(api.Scan{Rings: result.Rings[i+1:]})
				spoil(api.Scan{Rings: result.Rings[i : i+1]})
				if !same(api.Scan{Rings: result.Rings[i+1:]}, behind) {
					fail(t, "a result for %v shares memory with itself", s)
				}
			}
			spoil(result)
		}
		if !same(whole, kept) || !same(short, s) || !same(other, marked(s, knot(7, 8))) {
			fail(t, "%v became %v", kept, whole)
		}
		for i, result := range results() {
			if !same(result, second[i]) {
				fail(t, "result %d for %v became %v", i, second[i], result)
			}
		}
	}
}

func TestSharedReadings(t *testing.T) { // R3
	// The rings of an argument may share their readings, and the slices of a solid come from the same rings; those of a result share nothing.
	s := example(0, 1000, 2000)
	for i := range s.Rings {
		s.Rings[i].Read = s.Rings[0].Read
	}
	merged, _ := scan.Merge(s, s)
	for i, x := range []api.Scan{scan.Turn(s, 0), scan.Turn(s, 1), scan.Turn(api.Scan{Rings: s.Rings[1:]}, 1), merged} {
		x.Rings[0].Read[0].P.X = 7
		if x.Rings[1].Read[0].P.X == 7 || s.Rings[0].Read[0].P.X == 7 {
			t.Error(i, "shares readings")
		}
	}
	l, _ := scan.Build(s, -1, 0)
	l[0].Sec.Rows[0].A = 7
	if l[1].Sec.Rows[0].A == 7 {
		t.Error("the solid shares rows")
	}
}
