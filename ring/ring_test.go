package ring_test

import (
	"math"
	"math/big"
	"math/rand"
	"sawmill/api"
	"sawmill/poly"
	"sawmill/ring"
	"slices"
	"strings"
	"testing"
)

const most = api.MaxCross

// ringOf returns the ring at a distance whose readings have the X and Y that are given in pairs.
func ringOf(z int, numbers ...int) api.Ring {
	r := api.Ring{Z: z}
	for i := 0; i < len(numbers); i += 2 {
		r.Read = append(r.Read, api.Reading{P: api.Point{X: numbers[i], Y: numbers[i+1]}, Ok: true})
	}
	return r
}

// example returns the ring of the chapter's examples.
func example() api.Ring {
	return ringOf(0, 100, 0, 70, 70, 0, 100, -70, 70, -100, 0, -70, -70, 0, -100, 70, -70)
}

func clone(r api.Ring) api.Ring { return api.Ring{Z: r.Z, Read: slices.Clone(r.Read)} }

// with returns a ring in which a reading is another one.
func with(r api.Ring, i int, x api.Reading) api.Ring {
	r = clone(r)
	r.Read[i] = x
	return r
}

// moved returns a ring with a reading at another point.
func moved(r api.Ring, i, x, y int) api.Ring {
	return with(r, i, api.Reading{P: api.Point{X: x, Y: y}, Ok: true})
}

// gaps returns a ring in which some readings are gaps.
func gaps(r api.Ring, at ...int) api.Ring {
	for _, i := range at {
		r = with(r, i, api.Reading{})
	}
	return r
}

// only returns a ring in which all readings but some are gaps.
func only(r api.Ring, at ...int) api.Ring {
	r = clone(r)
	for i := range r.Read {
		if !slices.Contains(at, i) {
			r.Read[i] = api.Reading{}
		}
	}
	return r
}

// repeat returns a ring of equally many readings of one point and of gaps, in turn.
func repeat(count, x, y int) api.Ring {
	return api.Ring{Read: slices.Repeat([]api.Reading{{P: api.Point{X: x, Y: y}, Ok: true}, {}}, count/2)}
}

func same(a, b api.Ring) bool { return a.Z == b.Z && slices.Equal(a.Read, b.Read) }

// randomRing returns a ring whose readings lie around a center, apart from outliers, and are gaps more or less often.
func randomRing(random *rand.Rand) api.Ring {
	r := api.Ring{Z: random.Intn(api.MaxLength + 1)}
	spread, lack := []int{2, 50, most}[random.Intn(3)], random.Intn(11)
	for range 8 + random.Intn(25) {
		x := api.Reading{P: api.Point{X: random.Intn(2*spread+1) - spread, Y: random.Intn(2*spread+1) - spread}, Ok: true}
		if random.Intn(5) == 0 {
			x.P = api.Point{X: random.Intn(2*most+1) - most, Y: random.Intn(2*most+1) - most}
		}
		if random.Intn(10) < lack {
			x = api.Reading{}
		}
		r.Read = append(r.Read, x)
	}
	return r
}

// rings returns rings with few gaps and with many ones, and those that reach the limits.
func rings() []api.Ring {
	r := example()
	l := []api.Ring{r, ringOf(api.MaxLength, slices.Repeat([]int{most, -most, -most, most}, 16)...), repeat(8, 1, 2), repeat(32, -most, most), {Z: 5, Read: make([]api.Reading, 8)}, {Read: make([]api.Reading, 32)}, ringOf(1, slices.Repeat([]int{0, 0}, 8)...), gaps(r, 0, 1, 7), gaps(r, 3, 4), only(r, 0), only(r, 7), only(r, 3), only(r, 0, 7), only(r, 2, 5), only(r, 0, 1, 2), only(r, 1, 4, 6), moved(r, 1, 500, 70), moved(r, 0, -600, 600), moved(r, 7, 600, -600)}
	random := rand.New(rand.NewSource(1))
	for range 400 {
		l = append(l, randomRing(random))
	}
	return l
}

// notRings returns readings that are not a ring, with the error of each.
func notRings() ([]api.Ring, []api.Errno) {
	r := example()
	bad := api.Reading{P: api.Point{X: 5}}
	far := api.Reading{P: api.Point{X: most + 1}, Ok: true}
	at := func(z int, r api.Ring) api.Ring { return api.Ring{Z: z, Read: r.Read} }
	var rings []api.Ring
	var codes []api.Errno
	for _, x := range []struct {
		e     api.Errno
		rings []api.Ring
	}{
		{api.ErrShort, []api.Ring{{}, {Read: []api.Reading{}}, {Z: -1}, {Read: r.Read[:1]}, {Read: r.Read[:7]}, {Read: slices.Repeat([]api.Reading{far, bad}, 3)}, {Z: math.MinInt, Read: r.Read[1:]}, {Read: make([]api.Reading, 7)}}},
		{api.ErrLong, []api.Ring{{Read: make([]api.Reading, 33)}, {Read: slices.Repeat(r.Read, 5)}, {Read: slices.Repeat([]api.Reading{far, bad}, 17)}, {Z: math.MaxInt, Read: make([]api.Reading, 33)}, {Read: make([]api.Reading, 100000)}, repeat(34, 1, 2)}},
		{api.ErrRange, []api.Ring{
			at(-1, r), at(api.MaxLength+1, r), at(math.MinInt, r), at(math.MaxInt, r), at(-1, with(r, 0, bad)), at(20001, with(r, 0, bad)),
			moved(r, 0, most+1, 0), moved(r, 3, -most-1, 0), moved(r, 7, 0, most+1), moved(r, 5, 0, -most-1), moved(r, 5, math.MinInt, 0), moved(r, 5, 0, math.MaxInt), moved(r, 1, math.MaxInt, math.MinInt), with(with(r, 3, far), 4, bad), with(gaps(r, 0, 1, 2), 7, far),
		}},
		{api.ErrShape, []api.Ring{with(r, 0, bad), with(r, 7, bad), with(r, 3, api.Reading{P: api.Point{Y: -1}}), with(r, 3, api.Reading{P: api.Point{X: 1, Y: 1}}), with(r, 3, api.Reading{P: far.P}), with(r, 3, api.Reading{P: api.Point{X: math.MinInt, Y: math.MaxInt}}), with(with(r, 3, bad), 4, far), with(with(r, 6, bad), 7, bad), with(gaps(r, 0, 1, 2, 3, 4, 5, 6), 7, bad)}},
	} {
		for _, r := range x.rings {
			rings, codes = append(rings, r), append(codes, x.e)
		}
	}
	return rings, codes
}

func TestCheck(t *testing.T) { // P12.1
	for _, r := range rings() {
		if e := ring.Check(r); e != api.OK {
			t.Errorf("Check(%v) = %v", r, e)
		}
	}
	l, codes := notRings()
	for i, r := range l {
		if e := ring.Check(r); e != codes[i] {
			t.Errorf("Check(%.300v) = %v; want %v", r, e, codes[i])
		}
	}
}

// marks returns an o for each reading that is not a gap, and a dot for each gap.
func marks(r api.Ring) string {
	s := ""
	for _, x := range r.Read {
		s += map[bool]string{true: "o", false: "."}[x.Ok]
	}
	return s
}

func TestGaps(t *testing.T) { // P12.2
	r := example()
	for _, x := range []struct {
		r             api.Ring
		gaps, longest int
	}{
		{gaps(r, 0, 1, 7), 3, 3}, {r, 0, 0}, {gaps(r, 0), 1, 1}, {gaps(r, 7), 1, 1}, {gaps(r, 3), 1, 1}, {gaps(r, 0, 7), 2, 2}, {gaps(r, 1, 2, 6), 3, 2}, {gaps(r, 0, 1, 3, 4, 5, 7), 6, 3}, {gaps(r, 0, 2, 3, 4, 7), 5, 3}, {gaps(r, 0, 2, 4, 6), 4, 1}, {only(r, 3), 7, 7}, {only(r, 0), 7, 7}, {only(r, 7), 7, 7}, {only(r, 0, 7), 6, 6}, {only(r, 0, 1), 6, 6}, {only(r), 8, 8},
		{api.Ring{}, 0, 0}, {api.Ring{Z: -5}, 0, 0}, {api.Ring{Read: make([]api.Reading, 1)}, 1, 1}, {ringOf(0, 1, 2), 0, 0}, {api.Ring{Read: make([]api.Reading, 33)}, 33, 33}, {ringOf(0, most+1, math.MinInt, math.MaxInt, 0), 0, 0}, {api.Ring{Z: math.MinInt, Read: []api.Reading{{P: api.Point{X: 9}}, {Ok: true}, {P: api.Point{Y: math.MaxInt}}}}, 2, 2}, {api.Ring{Read: slices.Concat(make([]api.Reading, 30000), r.Read, make([]api.Reading, 40000))}, 70000, 70000},
	} {
		if n, longest := ring.Gaps(x.r); n != x.gaps || longest != x.longest {
			t.Errorf("Gaps of %.100s = %d, %d; want %d, %d", marks(x.r), n, longest, x.gaps, x.longest)
		}
	}
	l, _ := notRings()
	for _, r := range append(l, rings()...) {
		s := marks(r)
		if len(s) > 100 {
			continue
		}
		longest := 0
		for _, run := range strings.Split(s+s, "o") {
			longest = max(longest, min(len(run), len(s)))
		}
		if n, run := ring.Gaps(r); n != strings.Count(s, ".") || run != longest {
			t.Errorf("Gaps of %s = %d, %d; want %d, %d", s, n, run, strings.Count(s, "."), longest)
		}
	}
}

// limits returns limits of outliers, among them those that no two points exceed, and both ends of an int.
func limits() []int {
	return []int{math.MinInt, -1200, -1, 0, 1, 3, 30, 99, 100, 150, 400, 599, 600, 1199, 1200, 1201, 1 << 32, math.MaxInt}
}

func TestClean(t *testing.T) { // P12.3
	r := example()
	outlier, both := moved(r, 1, 500, 70), moved(moved(r, 1, 500, 70), 2, 500, 100)
	for i, x := range []struct {
		r     api.Ring
		limit int
		gaps  []int
	}{
		{outlier, 150, []int{1}}, {outlier, 400, nil}, {outlier, 399, []int{1}}, {outlier, -1, nil}, {outlier, math.MinInt, nil}, {outlier, math.MaxInt, nil}, {r, 100, nil}, {r, 70, nil}, {r, 69, []int{0, 1, 2, 3, 4, 5, 6, 7}}, {r, 0, []int{0, 1, 2, 3, 4, 5, 6, 7}},
		// Two outliers beside each other keep each other, but a limit below their distance takes both of them.
		{both, 150, nil}, {both, 30, []int{0, 3, 4, 5, 6, 7}}, {both, 29, []int{0, 1, 2, 3, 4, 5, 6, 7}}, {moved(both, 2, 0, -500), 150, []int{1, 2}}, {gaps(both, 2), 150, []int{1}},
		{moved(r, 0, 600, 0), 400, []int{0}}, {moved(r, 7, 70, -600), 499, []int{7}}, {moved(r, 7, 70, -600), 500, nil}, {moved(r, 0, 100, 300), 200, []int{0}}, {moved(r, 0, 100, 300), 229, []int{0}}, {moved(r, 0, 100, 300), 230, nil},
		// One of the two coordinates is enough, and each may be the one for one neighbor.
		{ringOf(0, 51, 0, 51, 0, 0, 0, 0, 51, 0, 51, 0, 51, 25, 25, 51, 0), 50, []int{2}}, {ringOf(0, 51, 0, 51, 0, 0, 0, 0, 51, 0, 51, 0, 51, 25, 25, 51, 0), 51, nil}, {ringOf(0, 0, 0, 0, 0, 51, 50, 0, 0, 0, 0, 0, 0, 0, 0, 0, 0), 50, []int{2}}, {ringOf(0, 0, 0, 0, 0, 50, -51, 0, 0, 0, 0, 0, 0, 0, 0, 0, 0), 50, []int{2}}, {ringOf(0, 0, 0, 0, 0, -50, 50, 0, 0, 0, 0, 0, 0, 0, 0, 0, 0), 50, nil},
		// The neighbors are behind the gaps, also around the end.
		{gaps(outlier, 0, 2), 150, []int{1}}, {gaps(moved(r, 0, 400, 0), 1, 7), 300, []int{0}}, {gaps(moved(r, 0, 400, 0), 1, 7), 399, []int{0}}, {gaps(moved(r, 0, 400, 0), 1, 7), 400, nil}, {gaps(moved(r, 7, 400, 0), 0, 1, 5, 6), 300, []int{7}},
		// With two readings, each is on both sides of the other one.
		{only(r, 0, 4), 200, nil}, {only(r, 0, 4), 199, []int{0, 4}}, {only(r, 0, 7), 69, []int{0, 7}}, {only(r, 0, 7), 70, nil}, {only(r, 3, 4), 10, []int{3, 4}}, {only(r, 3), 0, nil}, {only(r), 0, nil}, {only(r, 0), 0, nil}, {only(r, 0, 2, 5), 100, []int{5}}, {only(r, 0, 2, 5), 99, []int{0, 2, 5}},
	} {
		if c := ring.Clean(x.r, x.limit); !same(c, gaps(x.r, x.gaps...)) {
			t.Errorf("%d: Clean(%v, %d) = %v; want %v", i, x.r, x.limit, c, gaps(x.r, x.gaps...))
		}
	}
	l, _ := notRings()
	for _, r := range l {
		for _, limit := range limits() {
			if c := ring.Clean(r, limit); !same(c, r) {
				t.Errorf("Clean(%.300v, %d) = %.300v", r, limit, c)
			}
		}
	}
}

// found returns the numbers of the readings that are not gaps.
func found(r api.Ring) []int {
	var l []int
	for i, x := range r.Read {
		if x.Ok {
			l = append(l, i)
		}
	}
	return l
}

// outliers returns the numbers of the readings that are outliers, and looks for their neighbors in the list of those that are not gaps.
func outliers(r api.Ring, limit int) []int {
	var l []int
	list := found(r)
	if limit < 0 || len(list) < 2 {
		return nil
	}
	far := func(p, q api.Point) bool {
		bounds := poly.Bounds([]api.Point{p, q})
		return bounds.X.B-bounds.X.A > limit || bounds.Y.B-bounds.Y.A > limit
	}
	for k, i := range list {
		ahead, behind := list[(k+len(list)-1)%len(list)], list[(k+1)%len(list)]
		if far(r.Read[i].P, r.Read[ahead].P) && far(r.Read[i].P, r.Read[behind].P) {
			l = append(l, i)
		}
	}
	return l
}

func TestOutliers(t *testing.T) { // P12.3
	for _, r := range rings() {
		for _, limit := range limits() {
			if c, want := ring.Clean(r, limit), gaps(r, outliers(r, limit)...); !same(c, want) {
				t.Errorf("Clean(%v, %d) = %v; want %v", r, limit, c, want)
			}
		}
	}
}

func TestCleaning(t *testing.T) { // P12.7
	for _, r := range rings() {
		kept := map[int]bool{}
		for _, limit := range limits() {
			c := ring.Clean(r, limit)
			if e := ring.Check(c); e != api.OK {
				t.Errorf("Clean(%v, %d) is %v: %v", r, limit, c, e)
			}
			for i, x := range r.Read {
				if c.Read[i] != x && c.Read[i] != (api.Reading{}) {
					t.Errorf("Clean(%v, %d) changes the reading %d", r, limit, i)
				}
				if c.Read[i].Ok != x.Ok && (limit >= 2*most || limit < 0 || kept[i]) {
					t.Errorf("Clean(%v, %d) loses the reading %d", r, limit, i)
				}
				kept[i] = limit >= 0 && c.Read[i].Ok
			}
			for quarters := -1; quarters < 5; quarters++ {
				if a, b := ring.Clean(ring.Turn(r, quarters), limit), ring.Turn(c, quarters); !same(a, b) {
					t.Errorf("turned by %d and cleaned with %d: %v and %v", quarters, limit, a, b)
				}
			}
		}
	}
}

func points(numbers ...int) []api.Point {
	var l []api.Point
	for _, x := range ringOf(0, numbers...).Read {
		l = append(l, x.P)
	}
	return l
}

func TestRepair(t *testing.T) { // P12.4
	r := example()
	own := points(100, 0, 70, 70, 0, 100, -70, 70, -100, 0, -70, -70, 0, -100, 70, -70)
	// but returns the ring's own points, apart from some of them.
	but := func(at int, numbers ...int) []api.Point {
		l := slices.Clone(own)
		for i, p := range points(numbers...) {
			l[(at+i)%len(l)] = p
		}
		return l
	}
	for _, x := range []struct {
		r    api.Ring
		most int
		want []api.Point
		e    api.Errno
	}{
		{gaps(r, 1, 2), 2, but(1, 43, 23, -14, 46), api.OK}, {gaps(r, 1, 2), 1, nil, api.ErrScan}, {gaps(r, 1, 2), 3, but(1, 43, 23, -14, 46), api.OK}, {gaps(r, 1, 2), math.MaxInt, but(1, 43, 23, -14, 46), api.OK}, {gaps(r, 1, 2), 0, nil, api.ErrScan}, {gaps(r, 1, 2), -1, nil, api.ErrScan}, {gaps(r, 1, 2), math.MinInt, nil, api.ErrScan},
		{gaps(r, 7, 0, 1), 3, but(7, 0, -50, 0, 0, 0, 50), api.OK}, {gaps(r, 7, 0, 1), 2, nil, api.ErrScan}, {gaps(r, 0), 1, but(0, 70, 0), api.OK}, {gaps(r, 7), 1, but(7, 50, -50), api.OK}, {gaps(r, 6, 7), 2, but(6, -14, -47, 43, -24), api.OK}, {gaps(r, 0, 1), 2, but(0, 46, -14, 23, 43), api.OK}, {gaps(r, 0), 0, nil, api.ErrScan},
		{r, 0, own, api.OK}, {r, -1, own, api.OK}, {r, math.MinInt, own, api.OK}, {r, math.MaxInt, own, api.OK}, {r, 8, own, api.OK},
		// Several runs are repaired on their own, and the longest one decides.
		{gaps(r, 1, 3, 4, 6), 2, []api.Point{{X: 100}, {X: 50, Y: 50}, {Y: 100}, {X: -24, Y: 43}, {X: -47, Y: -14}, {X: -70, Y: -70}, {Y: -70}, {X: 70, Y: -70}}, api.OK}, {gaps(r, 1, 3, 4, 6), 1, nil, api.ErrScan},
		{only(r, 0, 1, 2), 5, but(3, 16, 83, 33, 66, 50, 50, 66, 33, 83, 16), api.OK}, {only(r, 0, 1, 2), 4, nil, api.ErrScan}, {only(r, 0, 1), 8, nil, api.ErrScan}, {only(r, 0, 4), 8, nil, api.ErrScan}, {only(r, 3), 8, nil, api.ErrScan}, {only(r), 8, nil, api.ErrScan}, {only(r), 100, nil, api.ErrScan}, {only(r, 0, 3, 6), 2, []api.Point{{X: 100}, {X: 43, Y: 23}, {X: -14, Y: 46}, {X: -70, Y: 70}, {X: -47, Y: 13}, {X: -24, Y: -44}, {Y: -100}, {X: 50, Y: -50}}, api.OK}, {only(r, 0, 3, 6), 1, nil, api.ErrScan},
	} {
		if p, e := ring.Repair(x.r, x.most); !slices.Equal(p, x.want) || e != x.e {
			t.Errorf("Repair(%v, %d) = %v, %v; want %v, %v", x.r, x.most, p, e, x.want, x.e)
		}
	}
	l, codes := notRings()
	for i, r := range l {
		for _, most := range []int{math.MinInt, 0, 32, math.MaxInt} {
			if p, e := ring.Repair(r, most); len(p) > 0 || e != codes[i] {
				t.Errorf("Repair(%.300v, %d) = %v, %v; want %v", r, most, p, e, codes[i])
			}
		}
	}
}

// between returns the number at k of n steps from a to b, rounded down.
func between(a, b, k, n int) int {
	way := new(big.Int).Mul(big.NewInt(int64(b-a)), big.NewInt(int64(k)))
	// Div rounds down for a positive divisor.
	return a + int(way.Div(way, big.NewInt(int64(n))).Int64())
}

// repaired returns the points of a ring, and goes from each reading that is not a gap to the next one.
func repaired(r api.Ring, most int) ([]api.Point, api.Errno) {
	list := found(r)
	if len(list) < 3 {
		return nil, api.ErrScan
	}
	p := make([]api.Point, len(r.Read))
	for k, i := range list {
		next := list[(k+1)%len(list)]
		steps := (next - i + len(p)) % len(p)
		if steps > 1 && steps-1 > most {
			return nil, api.ErrScan
		}
		a, b := r.Read[i].P, r.Read[next].P
		for step := range steps {
			p[(i+step)%len(p)] = api.Point{X: between(a.X, b.X, step, steps), Y: between(a.Y, b.Y, step, steps)}
		}
	}
	return p, api.OK
}

func TestRepaired(t *testing.T) { // P12.4, P12.8
	for _, r := range rings() {
		var own []api.Point
		for _, i := range found(r) {
			own = append(own, r.Read[i].P)
		}
		bounds, worked := poly.Bounds(own), false
		for _, most := range []int{math.MinInt, -1, 0, 1, 2, 3, 4, 5, 8, 12, 30, 31, 32, math.MaxInt} {
			p, e := ring.Repair(r, most)
			want, code := repaired(r, most)
			if !slices.Equal(p, want) || e != code {
				t.Errorf("Repair(%v, %d) = %v, %v; want %v, %v", r, most, p, e, want, code)
			}
			if worked && e != api.OK {
				t.Errorf("Repair(%v, %d) fails, but not with a smaller limit", r, most)
			}
			worked = e == api.OK
			again := api.Ring{Z: r.Z}
			for _, q := range p {
				if poly.Bounds(append(slices.Clone(own), q)) != bounds {
					t.Errorf("Repair(%v, %d) has %v, which is not within %v", r, most, q, bounds)
				}
				again.Read = append(again.Read, api.Reading{P: q, Ok: true})
			}
			for _, limit := range []int{math.MinInt, 0, 5} {
				if same, f := ring.Repair(again, limit); worked && (f != api.OK || !slices.Equal(same, p)) {
					t.Errorf("Repair of the points %v = %v, %v", p, same, f)
				}
			}
		}
	}
}

func TestTurn(t *testing.T) { // P12.5
	r := gaps(ringOf(7, 100, 0, 70, 60, 0, 100, -70, 70, -100, 5, -70, -70, 0, -100, most, -most), 3)
	turned := []api.Ring{r, gaps(ringOf(7, 0, 100, -60, 70, -100, 0, 0, 0, -5, -100, 70, -70, 100, 0, most, most), 3), gaps(ringOf(7, -100, 0, -70, -60, 0, -100, 0, 0, 100, -5, 70, 70, 0, 100, -most, most), 3), gaps(ringOf(7, 0, -100, 60, -70, 100, 0, 0, 0, 5, 100, -70, 70, -100, 0, -most, -most), 3)}
	for _, quarters := range []int{0, 1, 2, 3, 4, 5, 6, 7, -1, -2, -3, -4, 1 << 40, 1<<40 + 3, math.MaxInt, math.MaxInt - 1, math.MinInt, math.MinInt + 1} {
		want := turned[((quarters%4)+4)%4]
		if x := ring.Turn(r, quarters); !same(x, want) {
			t.Errorf("Turn by %d: %v; want %v", quarters, x, want)
		}
	}
	if x := ring.Turn(example(), 1); x.Read[0] != (api.Reading{P: api.Point{Y: 100}, Ok: true}) {
		t.Error("Turn by 1:", x)
	}
	for _, r := range rings() {
		for _, quarters := range []int{-5, -1, 0, 1, 2, 3} {
			x := ring.Turn(r, quarters)
			if x.Z != r.Z || len(x.Read) != len(r.Read) {
				t.Errorf("Turn(%v, %d) = %v", r, quarters, x)
			}
			for i, reading := range r.Read {
				if x.Read[i].Ok != reading.Ok || x.Read[i].P != poly.Turn([]api.Point{reading.P}, quarters)[0] {
					t.Errorf("Turn(%v, %d) = %v", r, quarters, x)
				}
			}
		}
	}
	l, _ := notRings()
	for _, r := range l {
		for _, quarters := range []int{0, 1, -1, 2} {
			if x := ring.Turn(r, quarters); !same(x, r) {
				t.Errorf("Turn(%.300v, %d) = %.300v", r, quarters, x)
			}
		}
	}
}

func TestMerge(t *testing.T) { // P12.6
	r, other := example(), ringOf(0, 1, 2, 3, 4, 5, 6, 7, 8, 9, 10, 11, 12, 13, 14, 15, 16)
	short, long := api.Ring{Read: r.Read[:7]}, api.Ring{Read: make([]api.Reading, 33)}
	nine := api.Ring{Read: append(slices.Clone(r.Read), api.Reading{})}
	higher := api.Ring{Z: 5, Read: r.Read}
	bad := with(r, 0, api.Reading{P: api.Point{X: 5}})
	far := moved(r, 0, most+1, 0)
	for _, x := range []struct {
		a, b, want api.Ring
		e          api.Errno
	}{
		{r, other, r, api.OK}, {gaps(r, 2), other, moved(r, 2, 5, 6), api.OK}, {gaps(r, 0, 7), other, moved(moved(r, 0, 1, 2), 7, 15, 16), api.OK}, {only(r), other, other, api.OK}, {r, only(other), r, api.OK}, {only(r), only(other), only(r), api.OK}, {gaps(r, 2, 3), gaps(other, 3, 4), gaps(moved(r, 2, 5, 6), 3), api.OK}, {other, gaps(r, 1), other, api.OK}, {gaps(other, 0), r, moved(other, 0, 100, 0), api.OK},
		{api.Ring{Z: api.MaxLength, Read: gaps(r, 0).Read}, api.Ring{Z: api.MaxLength, Read: r.Read}, api.Ring{Z: api.MaxLength, Read: r.Read}, api.OK},
		{r, higher, api.Ring{}, api.ErrShape}, {higher, r, api.Ring{}, api.ErrShape}, {r, nine, api.Ring{}, api.ErrShape}, {nine, r, api.Ring{}, api.ErrShape}, {higher, nine, api.Ring{}, api.ErrShape},
		{short, r, api.Ring{}, api.ErrShort}, {r, short, api.Ring{}, api.ErrShort}, {short, long, api.Ring{}, api.ErrShort}, {long, short, api.Ring{}, api.ErrLong}, {r, long, api.Ring{}, api.ErrLong}, {far, short, api.Ring{}, api.ErrRange}, {r, far, api.Ring{}, api.ErrRange}, {higher, far, api.Ring{}, api.ErrRange}, {far, higher, api.Ring{}, api.ErrRange}, {bad, far, api.Ring{}, api.ErrShape}, {far, bad, api.Ring{}, api.ErrRange}, {nine, far, api.Ring{}, api.ErrRange}, {short, short, api.Ring{}, api.ErrShort}, {r, api.Ring{Z: -1, Read: r.Read}, api.Ring{}, api.ErrRange}, {api.Ring{}, api.Ring{}, api.Ring{}, api.ErrShort},
	} {
		if m, e := ring.Merge(x.a, x.b); !same(m, x.want) || e != x.e {
			t.Errorf("Merge(%v, %.300v) = %v, %v; want %v, %v", x.a, x.b, m, e, x.want, x.e)
		}
	}
	l, codes := notRings()
	for i, r := range l {
		if m, e := ring.Merge(r, example()); !same(m, api.Ring{}) || e != codes[i] {
			t.Errorf("Merge(%.300v, a ring) = %v, %v", r, m, e)
		}
		if m, e := ring.Merge(example(), r); !same(m, api.Ring{}) || e != codes[i] {
			t.Errorf("Merge(a ring, %.300v) = %v, %v", r, m, e)
		}
	}
}

func TestTwoPasses(t *testing.T) { // P12.6, P12.9
	all := rings()
	for i, a := range all {
		if m, e := ring.Merge(a, a); !same(m, a) || e != api.OK {
			t.Errorf("Merge of %v with itself: %v, %v", a, m, e)
		}
		b := clone(all[(i+7)%len(all)])
		if len(b.Read) < len(a.Read) {
			a, b = b, a
		}
		b.Z, b.Read = a.Z, b.Read[:len(a.Read)]
		m, e := ring.Merge(a, b)
		if e != api.OK || m.Z != a.Z || len(m.Read) != len(a.Read) {
			t.Fatalf("Merge(%v, %v) = %v, %v", a, b, m, e)
		}
		for k, x := range m.Read {
			if x.Ok != (a.Read[k].Ok || b.Read[k].Ok) || a.Read[k].Ok && x != a.Read[k] || !a.Read[k].Ok && x != b.Read[k] {
				t.Errorf("Merge(%v, %v) = %v", a, b, m)
			}
		}
		for quarters := -2; quarters < 5; quarters++ {
			turned, e := ring.Merge(ring.Turn(a, quarters), ring.Turn(b, quarters))
			if e != api.OK || !same(turned, ring.Turn(m, quarters)) {
				t.Errorf("turned by %d and merged: %v and %v", quarters, turned, ring.Turn(m, quarters))
			}
		}
	}
}

func TestArgumentsStay(t *testing.T) { // R3
	for _, r := range []api.Ring{example(), moved(example(), 1, 500, 70), gaps(example(), 0, 1, 7), {Read: example().Read[:5]}, with(example(), 2, api.Reading{P: api.Point{X: 5}})} {
		// The spare capacity behind the readings belongs to the caller, too.
		whole := append(slices.Clone(r.Read), api.Reading{Ok: true}, api.Reading{P: api.Point{X: 7}, Ok: true})
		before := slices.Clone(whole)
		r.Read = whole[:len(r.Read)]
		other := api.Ring{Read: slices.Clone(example().Read)}
		results := func() ([]api.Ring, []api.Point) {
			ring.Check(r)
			ring.Gaps(r)
			p, _ := ring.Repair(r, 5)
			with, _ := ring.Merge(r, other)
			into, _ := ring.Merge(other, r)
			return []api.Ring{ring.Clean(r, 150), ring.Clean(r, -1), ring.Clean(r, 5000), ring.Turn(r, 0), ring.Turn(r, 4), ring.Turn(r, 1), with, into}, p
		}
		first, spoiled := results()
		second, points := results()
		for _, result := range first {
			for i := range result.Read {
				result.Read[i] = api.Reading{P: api.Point{X: -1, Y: -2}}
			}
		}
		for i := range spoiled {
			spoiled[i] = api.Point{X: -1, Y: -2}
		}
		if !slices.Equal(whole, before) || !same(other, example()) {
			t.Errorf("%v became %v", before, whole)
		}
		third, again := results()
		for i, result := range third {
			if !same(result, second[i]) {
				t.Errorf("result %d of %v became %v", i, second[i], result)
			}
		}
		if !slices.Equal(again, points) {
			t.Errorf("the points %v became %v", points, again)
		}
	}
}
