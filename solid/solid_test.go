package solid_test

import (
	"math"
	"math/rand"
	"sawmill/api"
	"sawmill/section"
	"sawmill/solid"
	"slices"
	"testing"
)

const most = api.MaxCross

// rows returns the section from a row on whose spans have the ends that are given in pairs.
func rows(low int, ends ...int) api.Section {
	s := api.Section{Low: low}
	for i := 0; i < len(ends); i += 2 {
		s.Rows = append(s.Rows, api.Span{A: ends[i], B: ends[i+1]})
	}
	return s
}

// full returns the greatest section.
func full() api.Section {
	return api.Section{Low: -60, Rows: slices.Repeat([]api.Span{{A: -most, B: most}}, 120)}
}

func box(a, b, c, d, e, f int) api.Box {
	return api.Box{X: api.Span{A: a, B: b}, Y: api.Span{A: c, B: d}, Z: api.Span{A: e, B: f}}
}

// everywhere returns the box that has every solid.
func everywhere() api.Box { return box(-most, most, -most, most, 0, api.MaxLength) }

func sameSection(a, b api.Section) bool { return a.Low == b.Low && slices.Equal(a.Rows, b.Rows) }

func same(a, b []api.Slice) bool {
	return slices.EqualFunc(a, b, func(x, y api.Slice) bool { return x.Len == y.Len && sameSection(x.Sec, y.Sec) })
}

// example returns the solid of the chapter's examples, and its two sections.
func example() ([]api.Slice, api.Section, api.Section) {
	butt, top := rows(0, -50, 50, -60, 60), rows(0, -50, 50)
	return []api.Slice{{Len: 2000, Sec: butt}, {Len: 1000, Sec: top}}, butt, top
}

// randomSolid returns slices of a few mm with few small rows, of which some between others may be empty: X is from -9 to 17, Y from -40 to 80.
func randomSolid(random *rand.Rand) []api.Slice {
	var l []api.Slice
	for range 1 + random.Intn(5) {
		s := api.Slice{Len: 1 + random.Intn(4), Sec: api.Section{Low: random.Intn(6) - 4}}
		count := 1 + random.Intn(6)
		for i := range count {
			a := random.Intn(17) - 9
			x := api.Span{A: a, B: a + 1 + random.Intn(9)}
			if i > 0 && i+1 < count && random.Intn(4) == 0 {
				x = api.Span{}
			}
			s.Sec.Rows = append(s.Sec.Rows, x)
		}
		l = append(l, s)
	}
	return l
}

// small returns solids that are at most 20 mm long.
func small() [][]api.Slice {
	s := rows(0, -5, 5, -6, 6)
	lists := [][]api.Slice{
		{{Len: 1, Sec: rows(0, 0, 1)}}, {{Len: 1, Sec: rows(-1, -1, 0)}, {Len: 1, Sec: rows(0, 0, 1)}}, {{Len: 3, Sec: s}, {Len: 2, Sec: rows(0, -5, 5)}, {Len: 4, Sec: s}}, {{Len: 2, Sec: s}, {Len: 2, Sec: rows(2, 0, 9)}, {Len: 2, Sec: s}}, {{Len: 5, Sec: rows(-3, 5, 9, 0, 0, 0, 0, -7, 6)}, {Len: 5, Sec: rows(-3, 5, 9)}}, {{Len: 20, Sec: s}},
	}
	random := rand.New(rand.NewSource(1))
	for range 60 {
		lists = append(lists, randomSolid(random))
	}
	return lists
}

// solids returns small solids, and those that reach the limits.
func solids() [][]api.Slice {
	l, butt, _ := example()
	return append(small(), l, []api.Slice{{Len: api.MaxLength, Sec: full()}}, []api.Slice{{Len: 1, Sec: full()}, {Len: api.MaxLength - 1, Sec: butt}}, slices.Repeat([]api.Slice{{Len: 833, Sec: full()}}, 24), slices.Repeat([]api.Slice{{Len: 1, Sec: butt}}, 24), append(slices.Repeat([]api.Slice{{Len: 1, Sec: butt}}, 23), api.Slice{Len: api.MaxLength - 23, Sec: full()}))
}

// notSolids returns lists that are not solids, with the error of each.
func notSolids() ([][]api.Slice, []api.Errno) {
	_, s, _ := example()
	good, long, off := api.Slice{Len: 10, Sec: s}, api.Slice{Len: 10, Sec: api.Section{Low: -60, Rows: slices.Repeat(rows(0, 0, 1).Rows, 121)}}, api.Slice{Len: 10, Sec: rows(0, 0, 700)}
	none, shapeless, empty, tooLong := api.Slice{Sec: s}, api.Slice{Len: 10, Sec: rows(0, 5, 5)}, api.Slice{Len: 10}, api.Slice{Len: api.MaxLength + 1, Sec: s}
	// sized returns slices of the example's section.
	sized := func(lengths ...int) []api.Slice {
		var l []api.Slice
		for _, n := range lengths {
			l = append(l, api.Slice{Len: n, Sec: s})
		}
		return l
	}
	var lists [][]api.Slice
	var codes []api.Errno
	for _, x := range []struct {
		e     api.Errno
		lists [][]api.Slice
	}{
		{api.ErrShort, [][]api.Slice{nil, {}}},
		{api.ErrLong, [][]api.Slice{make([]api.Slice, 25), slices.Repeat([]api.Slice{good}, 25), slices.Repeat([]api.Slice{off}, 25), slices.Repeat([]api.Slice{none}, 100000), {long}, {good, long}, {long, off}, {{Sec: long.Sec}}}},
		{api.ErrRange, [][]api.Slice{
			{none}, {off}, {{Sec: off.Sec}}, {{Len: 10, Sec: rows(60, 0, 1)}}, {{Len: 10, Sec: api.Section{Low: math.MinInt}}}, {good, off}, {good, none, empty}, {off, long}, {none, shapeless}, {tooLong}, {tooLong, empty}, append(slices.Repeat([]api.Slice{good}, 23), none),
			sized(-1), sized(math.MinInt), sized(math.MaxInt), sized(api.MaxLength, 1), sized(api.MaxLength-1, 2), sized(1, api.MaxLength), sized(10, 0), sized(0, 10), sized(10, -10, 10), sized(10, math.MaxInt), sized(10, math.MinInt, 10), sized(1, math.MaxInt, math.MaxInt), sized(1, -1), sized(math.MaxInt, math.MinInt, 10), sized(slices.Repeat([]int{834}, 24)...), sized(append(slices.Repeat([]int{1}, 23), api.MaxLength-22)...),
		}},
		{api.ErrEmpty, [][]api.Slice{{empty}, {{}}, {good, {}}, {empty, off}, {{Len: -1}}, {{Len: math.MaxInt}}, {{Len: api.MaxLength, Sec: s}, empty}, {{Len: 10, Sec: api.Section{Rows: []api.Span{}}}}, {good, empty, good}}},
		{api.ErrShape, [][]api.Slice{{shapeless}, {{Sec: shapeless.Sec}}, {{Len: math.MaxInt, Sec: shapeless.Sec}}, {good, shapeless}, {{Len: 10, Sec: api.Section{Low: 5}}}, {{Len: 10, Sec: rows(0, 0, 1, 5, 5, 0, 1)}}, {shapeless, none}, {shapeless, empty}}},
	} {
		for _, l := range x.lists {
			lists, codes = append(lists, l), append(codes, x.e)
		}
	}
	return lists, codes
}

func TestCheck(t *testing.T) { // P11.1
	for _, l := range solids() {
		if e := solid.Check(l); e != api.OK {
			t.Errorf("Check(%.200v) = %v", l, e)
		}
	}
	lists, codes := notSolids()
	for i, l := range lists {
		if e := solid.Check(l); e != codes[i] {
			t.Errorf("Check(%.200v) = %v; want %v", l, e, codes[i])
		}
	}
}

func TestNotSolids(t *testing.T) { // P11.2 to P11.8
	lists, _ := notSolids()
	for _, l := range lists {
		if solid.Length(l) != 0 || solid.Volume(l) != 0 || solid.Within(l, everywhere()) != 0 || solid.Bounds(l) != (api.Rect{}) {
			t.Errorf("%.200v has measures", l)
		}
		for _, z := range []int{math.MinInt, -1, 0, 1, 5, math.MaxInt} {
			if s, ok := solid.At(l, z); ok || !sameSection(s, api.Section{}) {
				t.Errorf("At(%.200v, %d) = %v, %v", l, z, s, ok)
			}
		}
		if len(solid.Cut(l, everywhere().Z)) > 0 || len(solid.Reverse(l)) > 0 || !sameSection(solid.Common(l, everywhere().Z), api.Section{}) {
			t.Errorf("%.200v has parts", l)
		}
	}
}

// layers returns the section of every mm of a solid.
func layers(l []api.Slice) []api.Section {
	var all []api.Section
	for _, s := range l {
		all = append(all, slices.Repeat([]api.Section{s.Sec}, s.Len)...)
	}
	return all
}

// has reports whether the cube of 1 mm3 from a point on belongs to the section.
func has(s api.Section, x, y int) bool {
	r := (y+1000)/10 - 100 - s.Low
	return 0 <= r && r < len(s.Rows) && s.Rows[r].A <= x && x < s.Rows[r].B
}

// cubes counts the cubes of 1 mm3 of a small solid that are in a box.
func cubes(l []api.Slice, b api.Box) int {
	count := 0
	for z, s := range layers(l) {
		if z < b.Z.A || z >= b.Z.B {
			continue
		}
		for x := max(b.X.A, -12); x < min(b.X.B, 20); x++ {
			for y := max(b.Y.A, -60); y < min(b.Y.B, 90); y++ {
				if has(s, x, y) {
					count++
				}
			}
		}
	}
	return count
}

func TestLengthAndVolume(t *testing.T) { // P11.2
	l, butt, _ := example()
	for _, x := range []struct {
		l              []api.Slice
		length, volume int
	}{
		{l, 3000, 5400000}, {[]api.Slice{{Len: 2000, Sec: butt}}, 2000, 4400000}, {[]api.Slice{{Len: 1, Sec: rows(5, 0, 1)}}, 1, 10}, {[]api.Slice{{Len: api.MaxLength, Sec: full()}}, 20000, 28800000000}, {[]api.Slice{{Len: 7, Sec: rows(0, 0, 3, 0, 0, 5, 9)}}, 7, 490}, {slices.Repeat([]api.Slice{{Len: 833, Sec: butt}}, 24), 19992, 43982400},
	} {
		if n, v := solid.Length(x.l), solid.Volume(x.l); n != x.length || v != x.volume {
			t.Errorf("%.200v has the length %d and the volume %d; want %d and %d", x.l, n, v, x.length, x.volume)
		}
	}
	for _, l := range small() {
		if n, v := solid.Length(l), solid.Volume(l); n != len(layers(l)) || v != cubes(l, everywhere()) {
			t.Errorf("%v has the length %d and the volume %d; want %d and %d", l, n, v, len(layers(l)), cubes(l, everywhere()))
		}
	}
}

func TestWithin(t *testing.T) { // P11.3
	l, _, _ := example()
	for _, x := range []struct {
		b    api.Box
		want int
	}{
		{box(0, 100, 5, 15, 1500, 2500), 400000}, {everywhere(), 5400000}, {box(0, 100, 5, 15, -100, 10), 5500}, {box(0, 100, 5, 15, 2999, 5000), 250}, {box(0, 100, 5, 15, 1999, 2000), 550}, {box(0, 100, 5, 15, 2000, 2001), 250}, {box(0, 1, 0, 1, 0, 3000), 3000}, {box(0, 1, 19, 20, 0, 3000), 2000}, {box(59, 60, 0, 20, 0, 3000), 20000}, {box(60, 61, 0, 20, 0, 3000), 0}, {box(-60, 60, 20, 21, 0, 3000), 0}, {box(-60, 60, -1, 0, 0, 3000), 0}, {box(-60, 60, 0, 20, 3000, 4000), 0}, {box(-60, 60, 0, 20, -1, 0), 0},
		{box(5, 5, 0, 20, 0, 3000), 0}, {box(6, 5, 0, 20, 0, 3000), 0}, {box(0, 5, 7, 7, 0, 3000), 0}, {box(0, 5, 20, 0, 0, 3000), 0}, {box(0, 5, 0, 20, 7, 7), 0}, {box(0, 5, 0, 20, 3000, 0), 0}, {box(5, 0, 20, 0, 0, 3000), 0}, {box(5, 0, 0, 20, 3000, 0), 0}, {box(0, 5, 20, 0, 3000, 0), 0}, {api.Box{}, 0},
		{box(math.MinInt, math.MaxInt, math.MinInt, math.MaxInt, math.MinInt, math.MaxInt), 5400000}, {box(math.MinInt, 0, 0, math.MaxInt, 2000, math.MaxInt), 500000}, {box(-5, 5, 0, 10, math.MinInt, 1), 100}, {box(-5, 5, 0, 10, math.MaxInt, math.MinInt), 0}, {box(math.MaxInt, math.MinInt, 0, 10, 0, 1), 0}, {box(-5, 5, math.MaxInt, math.MinInt, 0, 1), 0}, {box(-5, 5, 0, 10, math.MinInt, math.MinInt), 0}, {box(-5, 5, 0, 10, math.MaxInt, math.MaxInt), 0}, {box(-5, 5, 0, 10, math.MinInt, math.MinInt+1), 0}, {box(-5, 5, 0, 10, math.MaxInt-1, math.MaxInt), 0}, {box(-5, 5, 0, 10, -1<<32, 1<<32), 300000},
	} {
		if n := solid.Within(l, x.b); n != x.want {
			t.Errorf("Within %v: %d; want %d", x.b, n, x.want)
		}
	}
	if n := solid.Within([]api.Slice{{Len: api.MaxLength, Sec: full()}}, everywhere()); n != 28800000000 {
		t.Error("Within of the greatest solid:", n)
	}
	random := rand.New(rand.NewSource(2))
	for _, l := range small() {
		for range 40 {
			b := box(random.Intn(30)-12, random.Intn(30)-12, random.Intn(150)-60, random.Intn(150)-60, random.Intn(26)-3, random.Intn(26)-3)
			if n := solid.Within(l, b); n != cubes(l, b) {
				t.Errorf("Within(%v, %v) = %d; want %d", l, b, n, cubes(l, b))
			}
		}
	}
}

func TestAt(t *testing.T) { // P11.4
	l, butt, top := example()
	for _, x := range []struct {
		z    int
		want api.Section
		ok   bool
	}{
		{0, butt, true}, {1, butt, true}, {1999, butt, true}, {2000, top, true}, {2999, top, true}, {3000, api.Section{}, false}, {-1, api.Section{}, false}, {19999, api.Section{}, false}, {math.MaxInt, api.Section{}, false}, {math.MaxInt - 1, api.Section{}, false}, {math.MinInt, api.Section{}, false},
	} {
		if s, ok := solid.At(l, x.z); !sameSection(s, x.want) || ok != x.ok {
			t.Errorf("At %d: %v, %v; want %v, %v", x.z, s, ok, x.want, x.ok)
		}
	}
	for _, l := range solids() {
		all := layers(l)
		for _, z := range append([]int{len(all) - 1, len(all), len(all) + 1, 19998, 19999, 20000, 20001}, zs()...) {
			s, ok := solid.At(l, z)
			want := 0 <= z && z < len(all)
			if ok != want || want && !sameSection(s, all[z]) || !want && !sameSection(s, api.Section{}) {
				t.Errorf("At(%.200v, %d) = %.200v, %v", l, z, s, ok)
			}
		}
	}
}

// zs returns distances at both ends of an int, and those in a small solid and on both sides of it.
func zs() []int {
	l := []int{math.MinInt, math.MinInt + 1, -1 << 32, math.MaxInt - 1, math.MaxInt, 1 << 32}
	for z := -2; z < 23; z++ {
		l = append(l, z)
	}
	return l
}

// spans returns all spans between two of the distances, the ones that are inside out, too.
func spans() []api.Span {
	var l []api.Span
	for _, a := range zs() {
		for _, b := range zs() {
			l = append(l, api.Span{A: a, B: b})
		}
	}
	return l
}

// inside returns the sections of every mm of a solid along a span.
func inside(l []api.Slice, z api.Span) []api.Section {
	all := layers(l)
	low, high := max(z.A, 0), min(z.B, len(all))
	if low >= high {
		return nil
	}
	return all[low:high]
}

func TestCut(t *testing.T) { // P11.5
	l, butt, top := example()
	for _, x := range []struct {
		z    api.Span
		want []api.Slice
	}{
		{api.Span{A: 1500, B: 2500}, []api.Slice{{Len: 500, Sec: butt}, {Len: 500, Sec: top}}}, {api.Span{B: 3000}, l}, {api.Span{A: -5, B: 5000}, l}, {api.Span{A: 1999, B: 2001}, []api.Slice{{Len: 1, Sec: butt}, {Len: 1, Sec: top}}}, {api.Span{A: 10, B: 2000}, []api.Slice{{Len: 1990, Sec: butt}}}, {api.Span{A: 2000, B: 2100}, []api.Slice{{Len: 100, Sec: top}}}, {api.Span{A: 2999, B: 3001}, []api.Slice{{Len: 1, Sec: top}}}, {api.Span{A: -9, B: 1}, []api.Slice{{Len: 1, Sec: butt}}},
		{api.Span{A: 3000, B: 4000}, nil}, {api.Span{A: -9, B: 0}, nil}, {api.Span{A: 5, B: 5}, nil}, {api.Span{A: 2500, B: 1500}, nil}, {api.Span{}, nil}, {api.Span{A: math.MinInt, B: math.MaxInt}, l}, {api.Span{A: math.MaxInt, B: math.MinInt}, nil}, {api.Span{A: math.MinInt, B: math.MinInt + 9}, nil}, {api.Span{A: 2990, B: math.MaxInt}, []api.Slice{{Len: 10, Sec: top}}},
	} {
		if cut := solid.Cut(l, x.z); !same(cut, x.want) {
			t.Errorf("Cut along %v: %v; want %v", x.z, cut, x.want)
		}
	}
	for _, l := range small() {
		for _, z := range spans() {
			cut := solid.Cut(l, z)
			if !slices.EqualFunc(layers(cut), inside(l, z), sameSection) {
				t.Errorf("Cut(%v, %v) = %v", l, z, cut)
			}
			if len(cut) > 0 && solid.Check(cut) != api.OK {
				t.Errorf("Cut(%v, %v) is no solid: %v", l, z, cut)
			}
		}
	}
	// Slices with the same section are not joined.
	equal := []api.Slice{{Len: 5, Sec: butt}, {Len: 5, Sec: butt}}
	if cut := solid.Cut(equal, api.Span{A: 4, B: 6}); !same(cut, []api.Slice{{Len: 1, Sec: butt}, {Len: 1, Sec: butt}}) {
		t.Error("Cut of equal slices:", cut)
	}
}

func TestCommon(t *testing.T) { // P11.6
	l, butt, top := example()
	apart := []api.Slice{{Len: 10, Sec: butt}, {Len: 10, Sec: rows(5, 0, 9)}, {Len: 10, Sec: butt}}
	for _, x := range []struct {
		l    []api.Slice
		z    api.Span
		want api.Section
	}{
		{l, api.Span{B: 3000}, top}, {l, api.Span{B: 2000}, butt}, {l, api.Span{B: 2001}, top}, {l, api.Span{A: 1999, B: 2000}, butt}, {l, api.Span{A: 2000, B: 9000}, top}, {l, api.Span{A: math.MinInt, B: math.MaxInt}, top}, {l, api.Span{A: 3000, B: 3001}, api.Section{}}, {l, api.Span{A: -1, B: 0}, api.Section{}}, {l, api.Span{A: 7, B: 7}, api.Section{}}, {l, api.Span{A: 3000, B: 0}, api.Section{}}, {l, api.Span{A: math.MaxInt, B: math.MinInt}, api.Section{}}, {l, api.Span{}, api.Section{}},
		{apart, api.Span{B: 30}, api.Section{}}, {apart, api.Span{B: 10}, butt}, {apart, api.Span{B: 11}, api.Section{}}, {apart, api.Span{A: 10, B: 20}, rows(5, 0, 9)}, {apart, api.Span{A: 19, B: 21}, api.Section{}}, {apart, api.Span{A: 20, B: 21}, butt},
		{[]api.Slice{{Len: 1, Sec: rows(0, 0, 9, 0, 9, 0, 9)}, {Len: 1, Sec: rows(0, 0, 9, 20, 29, 5, 29)}}, api.Span{B: 2}, rows(0, 0, 9, 0, 0, 5, 9)}, {[]api.Slice{{Len: 1, Sec: rows(0, 0, 9)}, {Len: 1, Sec: rows(0, 3, 12)}, {Len: 1, Sec: rows(0, -5, 4)}}, api.Span{B: 3}, rows(0, 3, 4)},
	} {
		if s := solid.Common(x.l, x.z); !sameSection(s, x.want) {
			t.Errorf("Common(%v, %v) = %v; want %v", x.l, x.z, s, x.want)
		}
	}
}

func TestCommonParts(t *testing.T) { // P11.6, P11.11
	for _, l := range small() {
		for _, z := range spans() {
			common, all := solid.Common(l, z), inside(l, z)
			if e := section.Check(common); e != api.OK {
				t.Errorf("Common(%v, %v) is %v: %v", l, z, common, e)
			}
			// A section is full or empty between two multiples of RowStep.
			for y := -55; y < 85; y += 10 {
				for x := -11; x < 19; x++ {
					lacks := func(s api.Section) bool { return !has(s, x, y) }
					if has(common, x, y) != (len(all) > 0 && !slices.ContainsFunc(all, lacks)) {
						t.Fatalf("Common(%v, %v) = %v, wrong at %d, %d", l, z, common, x, y)
					}
				}
			}
			for r, row := range common.Rows {
				part := solid.Cut(l, z)
				b := api.Box{X: row, Y: api.Span{A: 10 * (common.Low + r), B: 10 * (common.Low + r + 1)}, Z: api.Span{B: solid.Length(part)}}
				if n := solid.Within(part, b); row.A < row.B && n != 10*(row.B-row.A)*len(all) {
					t.Errorf("%v along %v has %d in the box %v of Common", l, z, n, b)
				}
			}
		}
	}
}

func TestReverse(t *testing.T) { // P11.7
	l, butt, top := example()
	if r := solid.Reverse(l); !same(r, []api.Slice{{Len: 1000, Sec: top}, {Len: 2000, Sec: butt}}) {
		t.Error("Reverse:", r)
	}
	if r := solid.Reverse(l[:1]); !same(r, l[:1]) {
		t.Error("Reverse of one slice:", r)
	}
	slanting := []api.Slice{{Len: 1, Sec: rows(-3, 1, 9)}, {Len: 2, Sec: rows(4, -7, 2, 0, 0, 5, 6)}, {Len: 3, Sec: rows(0, 3, 4)}}
	if r := solid.Reverse(slanting); !same(r, []api.Slice{{Len: 3, Sec: rows(0, 3, 4)}, {Len: 2, Sec: rows(4, -7, 2, 0, 0, 5, 6)}, {Len: 1, Sec: rows(-3, 1, 9)}}) {
		t.Error("Reverse of three slices:", r)
	}
}

func TestMirrored(t *testing.T) { // P11.12
	random := rand.New(rand.NewSource(3))
	for _, l := range solids() {
		reversed := solid.Reverse(l)
		if !same(solid.Reverse(reversed), l) || solid.Check(reversed) != api.OK {
			t.Errorf("Reverse of %.200v is not inverted by itself", l)
		}
		length := solid.Length(l)
		for range 40 {
			b := box(random.Intn(30)-12, random.Intn(30)-6, random.Intn(150)-60, random.Intn(150)-40, random.Intn(length+4)-2, random.Intn(length+4)-2)
			mirrored := b
			mirrored.Z = api.Span{A: length - b.Z.B, B: length - b.Z.A}
			if solid.Within(l, b) != solid.Within(reversed, mirrored) {
				t.Errorf("%.200v has %d in %v, reversed %d", l, solid.Within(l, b), b, solid.Within(reversed, mirrored))
			}
		}
	}
}

func TestBounds(t *testing.T) { // P11.8
	l, _, top := example()
	for _, x := range []struct {
		l    []api.Slice
		want api.Box
	}{
		{l, box(-60, 60, 0, 20, 0, 0)}, {l[1:], box(-50, 50, 0, 10, 0, 0)}, {[]api.Slice{{Len: 1, Sec: rows(5, 20, 30)}, {Len: 1, Sec: rows(7, 40, 45)}}, box(20, 45, 50, 80, 0, 0)}, {[]api.Slice{{Len: 1, Sec: rows(7, 40, 45)}, {Len: 1, Sec: rows(5, 20, 30)}}, box(20, 45, 50, 80, 0, 0)}, {[]api.Slice{{Len: 1, Sec: rows(-7, -45, -40)}, {Len: 1, Sec: rows(-5, -30, -20)}}, box(-45, -20, -70, -40, 0, 0)}, {[]api.Slice{{Len: 1, Sec: rows(5, 20, 30, 0, 0, 20, 31)}}, box(20, 31, 50, 80, 0, 0)},
		{[]api.Slice{{Len: 1, Sec: top}, {Len: 1, Sec: full()}, {Len: 1, Sec: top}}, box(-most, most, -most, most, 0, 0)},
	} {
		if r := solid.Bounds(x.l); r != (api.Rect{X: x.want.X, Y: x.want.Y}) {
			t.Errorf("Bounds(%.200v) = %v; want %v", x.l, r, x.want)
		}
	}
	for _, l := range small() {
		r := solid.Bounds(l)
		volume := cubes(l, everywhere())
		within := func(a, b, c, d int) int {
			return cubes(l, box(r.X.A+a, r.X.B-b, r.Y.A+c, r.Y.B-d, 0, 20))
		}
		if r.Y.A%10 != 0 || r.Y.B%10 != 0 || within(0, 0, 0, 0) != volume || within(1, 0, 0, 0) == volume || within(0, 1, 0, 0) == volume || within(0, 0, 10, 0) == volume || within(0, 0, 0, 10) == volume {
			t.Errorf("Bounds(%v) = %v", l, r)
		}
	}
}

func TestVolumesAddUp(t *testing.T) { // P11.9
	random := rand.New(rand.NewSource(4))
	for _, l := range solids() {
		length, r := solid.Length(l), solid.Bounds(l)
		for range 30 {
			x := []int{random.Intn(40) - 15, random.Intn(40) - 15, random.Intn(1301) - 650}
			y := []int{random.Intn(200) - 80, random.Intn(200) - 80, random.Intn(1301) - 650}
			z := []int{random.Intn(length+4) - 2, random.Intn(length+4) - 2, random.Intn(length+4) - 2}
			slices.Sort(x)
			slices.Sort(y)
			slices.Sort(z)
			whole := solid.Within(l, box(x[0], x[2], y[0], y[2], z[0], z[2]))
			across := solid.Within(l, box(x[0], x[1], y[0], y[2], z[0], z[2])) + solid.Within(l, box(x[1], x[2], y[0], y[2], z[0], z[2]))
			upward := solid.Within(l, box(x[0], x[2], y[0], y[1], z[0], z[2])) + solid.Within(l, box(x[0], x[2], y[1], y[2], z[0], z[2]))
			along := solid.Within(l, box(x[0], x[2], y[0], y[2], z[0], z[1])) + solid.Within(l, box(x[0], x[2], y[0], y[2], z[1], z[2]))
			if across != whole || upward != whole || along != whole {
				t.Errorf("%.200v divided at %v, %v, %v has %d, %d, %d in place of %d", l, x, y, z, across, upward, along, whole)
			}
			volume := func(from, to int) int { return solid.Volume(solid.Cut(l, api.Span{A: from, B: to})) }
			if volume(z[0], z[1])+volume(z[1], z[2]) != volume(z[0], z[2]) || volume(z[0], z[2]) != solid.Within(l, api.Box{X: r.X, Y: r.Y, Z: api.Span{A: z[0], B: z[2]}}) {
				t.Errorf("parts of %.200v along %v do not add up to %d", l, z, volume(z[0], z[2]))
			}
		}
	}
}

func TestBoxesBoundVolumes(t *testing.T) { // P11.10
	random := rand.New(rand.NewSource(5))
	for _, l := range solids() {
		length, r := solid.Length(l), solid.Bounds(l)
		if n := solid.Within(l, api.Box{X: r.X, Y: r.Y, Z: api.Span{B: length}}); n != solid.Volume(l) {
			t.Errorf("%.200v has %d in its bounds, not %d", l, n, solid.Volume(l))
		}
		for range 30 {
			a, c, e := random.Intn(30)-15, random.Intn(120)-60, random.Intn(length)
			b, d, f := a+random.Intn(20), c+random.Intn(60), e+random.Intn(length)
			n := solid.Within(l, box(a, b, c, d, e, f))
			if n < 0 || n > (b-a)*(d-c)*(f-e) || n > solid.Within(l, box(a-random.Intn(5), b+random.Intn(5), c-random.Intn(15), d+random.Intn(15), e-random.Intn(5), f+random.Intn(5))) {
				t.Errorf("%.200v has %d in %v", l, n, box(a, b, c, d, e, f))
			}
		}
	}
}

// clone returns slices that share no memory with others.
func clone(l []api.Slice) []api.Slice {
	var c []api.Slice
	for _, s := range l {
		c = append(c, api.Slice{Len: s.Len, Sec: api.Section{Low: s.Sec.Low, Rows: slices.Clone(s.Sec.Rows)}})
	}
	return c
}

// spoil changes everything that can be reached through some slices.
func spoil(l []api.Slice) {
	for i := range l {
		for k := range l[i].Sec.Rows {
			l[i].Sec.Rows[k] = api.Span{A: -1, B: -2}
		}
		l[i] = api.Slice{Len: -7}
	}
}

func TestArgumentsStay(t *testing.T) { // R3
	_, butt, top := example()
	shared := api.Slice{Len: 3, Sec: butt}
	for _, l := range [][]api.Slice{{{Len: 20, Sec: butt}, {Len: 10, Sec: top}}, {{Len: 20, Sec: butt}}, {shared, {Len: 4, Sec: top}, shared}, {shared, {}}} {
		// The spare capacity behind the slices and behind their rows belongs to the caller, too.
		whole := append(clone(l), api.Slice{Len: 9, Sec: rows(0, 1, 2)}, api.Slice{Len: 8, Sec: rows(0, 2, 3)})
		for i := range whole {
			whole[i].Sec.Rows = append(whole[i].Sec.Rows, api.Span{A: 7, B: 8})
		}
		before := clone(whole)
		for i, s := range whole {
			whole[i].Sec.Rows = s.Sec.Rows[:len(s.Sec.Rows)-1]
		}
		l = whole[:len(l)]
		results := func() [][]api.Slice {
			solid.Check(l)
			solid.Length(l)
			solid.Volume(l)
			solid.Within(l, everywhere())
			solid.Bounds(l)
			section, _ := solid.At(l, 0)
			return [][]api.Slice{{{Sec: section}}, {{Sec: solid.Common(l, api.Span{B: 1})}}, {{Sec: solid.Common(l, api.Span{B: 30})}}, solid.Cut(l, api.Span{B: 30}), solid.Cut(l, api.Span{A: 2, B: 5}), solid.Reverse(l)}
		}
		first, second := results(), results()
		for _, result := range first {
			for i := range result {
				// No two sections of a result may share their rows.
				kept := clone(result[i+1:])
				spoil(result[i : i+1])
				if !same(result[i+1:], kept) {
					t.Errorf("a result for %v shares memory with itself", before)
				}
			}
		}
		for i, s := range whole {
			whole[i].Sec.Rows = s.Sec.Rows[:len(s.Sec.Rows)+1]
		}
		if !same(whole, before) {
			t.Errorf("%v became %v", before, whole)
		}
		for i, s := range whole {
			whole[i].Sec.Rows = s.Sec.Rows[:len(s.Sec.Rows)-1]
		}
		for i, result := range results() {
			if !same(result, second[i]) {
				t.Errorf("result %d of %v became %v", i, second[i], result)
			}
		}
	}
}

func TestSharedRows(t *testing.T) { // R3
	_, butt, _ := example()
	// The slices of an argument may share their rows; those of a result do not.
	l := []api.Slice{{Len: 3, Sec: butt}, {Len: 4, Sec: butt}}
	for i, result := range [][]api.Slice{solid.Cut(l, api.Span{B: 7}), solid.Reverse(l)} {
		result[0].Sec.Rows[0].A = 7
		if result[1].Sec.Rows[0].A == 7 || butt.Rows[0].A == 7 {
			t.Error(i, "shares rows")
		}
	}
}
