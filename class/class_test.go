package class_test

import (
	"fmt"
	"math"
	"math/big"
	"math/rand"
	"sawmill/api"
	"sawmill/class"
	"sawmill/defect"
	"sawmill/section"
	"sawmill/shape"
	"sawmill/solid"
	"slices"
	"strings"
	"testing"
)

const (
	across  = api.MaxCross
	most    = 1000000 // the greatest number of a class
	longest = api.MaxLength
)

// fail reports an error, with long arguments cut short.
func fail(t *testing.T, format string, args ...any) {
	t.Helper()
	for i, x := range args {
		if s := fmt.Sprint(x); len(s) > 300 {
			args[i] = s[:300] + ".."
		}
	}
	t.Errorf(format, args...)
}

// rows returns the section from a row on whose spans have the ends that are given in pairs.
func rows(low int, ends ...int) api.Section {
	s := api.Section{Low: low}
	for i := 0; i < len(ends); i += 2 {
		s.Rows = append(s.Rows, api.Span{A: ends[i], B: ends[i+1]})
	}
	return s
}

// block returns so many equal rows.
func block(low, count, a, b int) api.Section {
	return api.Section{Low: low, Rows: slices.Repeat([]api.Span{{A: a, B: b}}, count)}
}

// square returns the section of the chapter's examples.
func square() api.Section { return block(-10, 20, -100, 100) }

// logOf returns slices whose lengths and sections are given in turn.
func logOf(parts ...any) []api.Slice {
	var l []api.Slice
	for i := 0; i < len(parts); i += 2 {
		l = append(l, api.Slice{Len: parts[i].(int), Sec: parts[i+1].(api.Section)})
	}
	return l
}

// example returns the log of the chapter's examples.
func example() []api.Slice { return logOf(3000, square()) }

// tapered returns the solid of chapter 11, with the diameter 35, the length 3000, the sweep 0 and the taper 56.
func tapered() []api.Slice { return logOf(2000, rows(0, -50, 50, -60, 60), 1000, rows(0, -50, 50)) }

// swept returns a solid with the diameter 35, the length 3000, the sweep 20 and the taper 0.
func swept() []api.Slice {
	return logOf(1000, rows(0, -50, 50), 1000, rows(0, -40, 60), 1000, rows(0, -50, 50))
}

// is returns a defect of a kind.
func is(kind int) api.Defect {
	return api.Defect{Kind: kind, Box: api.Box{X: api.Span{A: -5, B: 9}, Y: api.Span{B: 1}, Z: api.Span{B: longest}}}
}

// kinds returns defects of kinds.
func kinds(l ...int) []api.Defect {
	var d []api.Defect
	for _, kind := range l {
		d = append(d, is(kind))
	}
	return d
}

// named returns a class that has no numbers.
func named(name string) api.Class { return api.Class{Name: name} }

// permitting returns a valid class that the logs of these tests fit.
func permitting(name string) api.Class {
	return api.Class{Name: name, MaxLength: longest, MaxSweep: most, MaxTaper: most, MaxKnots: api.MaxDefects, MaxRot: api.MaxDefects, Price: 1}
}

// several returns so many classes with different names.
func several(count int) []api.Class {
	var l []api.Class
	for i := range count {
		l = append(l, named(fmt.Sprint("c", i)))
	}
	return l
}

// numbers returns the places of all numbers of a class, in their order.
func numbers(c *api.Class) []*int {
	return []*int{&c.MinDiameter, &c.MinLength, &c.MaxLength, &c.MaxSweep, &c.MaxTaper, &c.MaxKnots, &c.MaxRot, &c.Price}
}

// The places of numbers.
const (
	minDiameter = iota
	minLength
	maxLength
	maxSweep
	maxTaper
	maxKnots
	maxRot
	price
)

// with returns a class with another number at a place.
func with(c api.Class, place, n int) api.Class {
	*numbers(&c)[place] = n
	return c
}

func TestCheckList(t *testing.T) { // P16.1
	bad, exact := named("-"), with(with(named("d"), minLength, 7), maxLength, 7)
	for i, x := range []struct {
		l    []api.Class
		want api.Errno
	}{
		{nil, api.OK}, {[]api.Class{}, api.OK}, {several(1), api.OK}, {several(15), api.OK}, {several(16), api.OK}, {several(17), api.ErrLong}, {several(1000), api.ErrLong},
		{make([]api.Class, 16), api.ErrName}, {make([]api.Class, 17), api.ErrLong}, {[]api.Class{exact}, api.OK},
		{[]api.Class{named("a"), named("a")}, api.ErrExists}, {[]api.Class{named("a"), named("b"), named("a")}, api.ErrExists}, {append(several(15), named("c0")), api.ErrExists}, {append(several(15), named("c14")), api.ErrExists}, {append(several(16), named("c0")), api.ErrLong},
		{[]api.Class{named("a"), named("aa"), named("a_"), named("b")}, api.OK}, {[]api.Class{with(named("a"), price, 5), with(named("a"), price, 6)}, api.ErrExists},
		{[]api.Class{with(named("a"), minLength, 5), named("b")}, api.ErrRange}, {[]api.Class{with(with(named("a"), minLength, 5), maxLength, 4)}, api.ErrRange}, {[]api.Class{with(with(named("a"), minLength, most), maxLength, most-1)}, api.ErrRange}, {[]api.Class{with(with(named("a"), minLength, most), maxLength, most)}, api.OK},
		// Class by class, each with all its errors before the next one.
		{[]api.Class{with(bad, price, -1)}, api.ErrName}, {[]api.Class{named("a"), with(named("a"), price, -1)}, api.ErrExists}, {[]api.Class{with(named("a"), price, -1), named("a")}, api.ErrRange}, {[]api.Class{with(named("a"), price, -1), bad}, api.ErrRange}, {[]api.Class{named("a"), named("a"), bad}, api.ErrExists}, {[]api.Class{named("a"), bad, named("a")}, api.ErrName}, {[]api.Class{bad, bad}, api.ErrName}, {append(several(15), bad), api.ErrName}, {append(several(15), with(named("a"), maxRot, -1)), api.ErrRange},
	} {
		if e := class.Check(x.l); e != x.want {
			fail(t, "%d: Check(%v) is %v; want %v", i, x.l, e, x.want)
		}
	}
}

func TestCheckNames(t *testing.T) { // P16.1
	for _, name := range []string{"a", "z", "saw_log_2", "a_", "b7", strings.Repeat("a", 16)} {
		if e := class.Check([]api.Class{named(name)}); e != api.OK {
			fail(t, "the name %q: %v", name, e)
		}
	}
	for _, name := range []string{"", "A", "aB", "1a", "_a", "a b", "a-b", " a", "a\x00", "\xff", "ä", "a\n", strings.Repeat("a", 17), strings.Repeat("a", 5000)} {
		if e := class.Check([]api.Class{named(name)}); e != api.ErrName {
			fail(t, "the name %q: %v", name, e)
		}
		if e := class.Check([]api.Class{named("b"), named(name)}); e != api.ErrName {
			fail(t, "the name %q of the second class: %v", name, e)
		}
	}
}

func TestCheckNumbers(t *testing.T) { // P16.1
	for place := minDiameter; place <= price; place++ {
		for _, n := range []int{0, 1, 999999, most} {
			c := with(with(named("a"), maxLength, most), place, n)
			if e := class.Check([]api.Class{c}); e != api.OK {
				fail(t, "%v: %v", c, e)
			}
		}
		for _, n := range []int{-1, most + 1, -most, 1 << 40, math.MinInt, math.MaxInt, math.MinInt + 1} {
			// With the same least and greatest length, and with a greatest length that is great enough.
			for _, c := range []api.Class{with(named("a"), place, n), with(with(with(named("a"), minLength, n), maxLength, n), place, n), with(with(named("a"), maxLength, most), place, n)} {
				for _, l := range [][]api.Class{{c}, {named("b"), c}, {c, named("b")}, append(several(15), c)} {
					if e := class.Check(l); e != api.ErrRange {
						fail(t, "%v: %v", l, e)
					}
				}
			}
		}
	}
}

func TestFits(t *testing.T) { // P16.2
	log := api.Class{Name: "a", MinDiameter: 225, MinLength: 3000, MaxLength: 3000, Price: 100}
	cone := api.Class{MinDiameter: 35, MinLength: 3000, MaxLength: 3000, MaxTaper: 56}
	bow := api.Class{MinDiameter: 35, MinLength: 3000, MaxLength: 3000, MaxSweep: 20}
	none := kinds()
	for i, x := range []struct {
		c    api.Class
		l    []api.Slice
		d    []api.Defect
		want bool
	}{
		{log, example(), none, true}, {with(log, minDiameter, 224), example(), none, true}, {with(log, minDiameter, 226), example(), none, false},
		{with(log, minLength, 2999), example(), none, true}, {with(log, minLength, 3001), example(), none, false}, {with(log, maxLength, 3001), example(), none, true}, {with(log, maxLength, 2999), example(), none, false},
		{cone, tapered(), none, true}, {with(cone, maxTaper, 55), tapered(), none, false}, {with(cone, maxTaper, 57), tapered(), none, true}, {with(cone, minDiameter, 36), tapered(), none, false}, {cone, solid.Reverse(tapered()), none, true}, {with(cone, maxTaper, 0), solid.Reverse(tapered()), none, true}, {with(cone, minDiameter, 52), solid.Reverse(tapered()), none, true}, {with(cone, minDiameter, 53), solid.Reverse(tapered()), none, false},
		{bow, swept(), none, true}, {with(bow, maxSweep, 19), swept(), none, false}, {with(bow, maxSweep, 10), swept(), none, false}, {with(bow, maxSweep, 21), swept(), none, true}, {bow, tapered(), none, false}, {cone, swept(), none, false},
		{log, example(), kinds(1), false}, {log, example(), kinds(2), false}, {log, example(), kinds(3), false}, {log, example(), kinds(4), true}, {log, example(), kinds(5), true}, {log, example(), kinds(6), true}, {log, example(), kinds(4, 5, 6, 6, 5, 4), true},
		{with(log, maxKnots, 1), example(), kinds(2), true}, {with(log, maxKnots, 1), example(), kinds(1), true}, {with(log, maxKnots, 1), example(), kinds(1, 2), false}, {with(log, maxKnots, 2), example(), kinds(1, 2), true}, {with(log, maxKnots, 2), example(), kinds(2, 2), true}, {with(log, maxKnots, 2), example(), kinds(2, 1, 2), false}, {with(log, maxKnots, 1), example(), kinds(3), false}, {with(log, maxKnots, 9), example(), kinds(2, 3), false}, {with(log, maxRot, 1), example(), kinds(3), true}, {with(log, maxRot, 1), example(), kinds(3, 3), false}, {with(log, maxRot, 2), example(), kinds(3, 4, 3), true}, {with(log, maxRot, 9), example(), kinds(3, 1), false}, {with(log, maxRot, 9), example(), kinds(2, 3), false},
		{with(log, maxKnots, 64), example(), slices.Repeat(kinds(2), 64), true}, {with(log, maxKnots, 63), example(), slices.Repeat(kinds(2), 64), false}, {with(log, maxRot, 64), example(), slices.Repeat(kinds(3), 64), true}, {with(log, maxRot, 63), example(), slices.Repeat(kinds(3), 64), false}, {with(with(log, maxRot, 21), maxKnots, 42), example(), slices.Repeat(kinds(1, 2, 3), 21), true}, {with(with(log, maxRot, 21), maxKnots, 41), example(), slices.Repeat(kinds(1, 2, 3), 21), false}, {with(with(log, maxRot, 20), maxKnots, 42), example(), slices.Repeat(kinds(1, 2, 3), 21), false},
		// The name and the price do not count.
		{with(log, price, -7), example(), none, true}, {with(log, price, math.MinInt), example(), none, true}, {with(log, price, math.MaxInt), example(), none, true},
		{api.Class{MaxLength: 1, MinDiameter: 3}, logOf(1, rows(0, 0, 1)), none, true}, {api.Class{}, logOf(1, rows(0, 0, 1)), none, false}, {api.Class{MaxLength: longest, MinLength: longest, MinDiameter: 1354}, logOf(longest, block(-60, 120, -across, across)), none, true}, {api.Class{MaxLength: longest, MinDiameter: 1355}, logOf(longest, block(-60, 120, -across, across)), none, false},
	} {
		for _, name := range []string{"a", "", "NO NAME", "\xff", strings.Repeat("x", 3000)} {
			x.c.Name = name
			if ok := class.Fits(x.c, x.l, x.d); ok != x.want {
				fail(t, "%d: Fits(%v, %v, %v) is %v", i, x.c, x.l, x.d, ok)
			}
		}
	}
}

// loosest returns the class with the loosest limits that there are, which is not valid.
func loosest() api.Class {
	least, great := math.MinInt, math.MaxInt
	return api.Class{MinDiameter: least, MinLength: least, MaxLength: great, MaxSweep: great, MaxTaper: great, MaxKnots: great, MaxRot: great, Price: great}
}

func TestFitsEndsOfAnInt(t *testing.T) { // P16.2
	if !class.Fits(loosest(), example(), kinds(1, 2, 3, 4, 5, 6)) {
		t.Error("the loosest class")
	}
	for place := minDiameter; place <= price; place++ {
		loose := *numbers(new(loosest()))[place]
		for _, n := range []int{math.MinInt, math.MinInt + 1, -1, math.MaxInt - 1, math.MaxInt} {
			want := place == price || (n < 0) == (loose < 0)
			if ok := class.Fits(with(loosest(), place, n), example(), kinds(1, 3)); ok != want {
				fail(t, "the loosest class with %d at the place %d: %v", n, place, ok)
			}
		}
	}
	if !class.Fits(with(with(loosest(), minLength, 3000), maxLength, 3000), example(), nil) || class.Fits(with(with(loosest(), minLength, 3001), maxLength, 3000), example(), nil) || class.Fits(with(with(loosest(), minLength, 3000), maxLength, 2999), example(), nil) {
		t.Error("the lengths 3000 to 3000, 3001 to 3000 and 3000 to 2999")
	}
}

// notSolids returns lists that are not solids.
func notSolids() [][]api.Slice {
	s, few := square(), api.Slice{Len: 5, Sec: square()}
	return [][]api.Slice{nil, {}, slices.Repeat([]api.Slice{few}, 25), slices.Repeat([]api.Slice{few}, 1000), logOf(0, s), logOf(-3000, s), logOf(5, s, 0, s), logOf(longest+1, s), logOf(longest, s, 1, s), logOf(math.MaxInt, s), logOf(math.MinInt, s), logOf(math.MaxInt, s, math.MaxInt, s), logOf(3000, api.Section{}), logOf(3000, s, 1, api.Section{}), logOf(3000, api.Section{Low: 1}), logOf(3000, rows(0, 5, 5)), logOf(3000, rows(0, 5, -5)), logOf(3000, rows(60, 0, 5)), logOf(3000, rows(0, -across-1, 5)), logOf(3000, block(-60, 121, 0, 5)), logOf(3000, rows(0, math.MinInt, math.MaxInt)), logOf(3000, s, 5, rows(math.MaxInt, 0, 5)), {{}, few}, {few, {}}}
}

// notDefects returns lists of defects that are not valid.
func notDefects() [][]api.Defect {
	lists := [][]api.Defect{slices.Repeat(kinds(4), 65), slices.Repeat(kinds(4), 1000), kinds(0), kinds(7), kinds(-1), kinds(math.MinInt), kinds(math.MaxInt), kinds(4, 5, 9), {{}}, {is(4), {}}}
	for _, s := range []api.Span{{}, {A: 5, B: 5}, {A: 5, B: 4}, {A: math.MaxInt, B: math.MinInt}, {A: -longest - 1, B: 5}, {A: 5, B: longest + 1}, {A: math.MinInt, B: math.MaxInt}} {
		x, y, z := is(4), is(4), is(4)
		x.Box.X, y.Box.Y, z.Box.Z = s, s, s
		lists = append(lists, []api.Defect{x}, []api.Defect{y}, []api.Defect{z}, []api.Defect{is(4), x}, []api.Defect{z, is(4)})
	}
	return lists
}

func TestNotLogs(t *testing.T) { // P16.2, P16.3, P16.4
	refuse := func(l []api.Slice, d []api.Defect) {
		t.Helper()
		for _, c := range []api.Class{{}, permitting("a"), loosest(), with(permitting("a"), minDiameter, -1)} {
			if class.Fits(c, l, d) {
				fail(t, "%v with %v fits %v", l, d, c)
			}
		}
		classes := []api.Class{permitting("a"), permitting("b"), named("c")}
		if i, ok := class.Of(classes, l, d); i != 0 || ok {
			fail(t, "%v with %v has the class %d, %v", l, d, i, ok)
		}
		if p := class.Price(classes, l, d); p != 0 {
			fail(t, "%v with %v has the price %d", l, d, p)
		}
	}
	for _, l := range notSolids() {
		refuse(l, nil)
		refuse(l, kinds(1, 3))
	}
	for _, d := range notDefects() {
		refuse(example(), d)
		refuse(nil, d)
	}
}

// randomSection returns a section whose rows lie within a random reach.
func randomSection(random *rand.Rand) api.Section {
	reach := []int{3, 100, across}[random.Intn(3)]
	count := 1 + random.Intn(min(reach, 120))
	s := api.Section{Low: random.Intn(121-count) - 60}
	for range count {
		a := random.Intn(2*reach) - reach
		s.Rows = append(s.Rows, api.Span{A: a, B: a + 1 + random.Intn(reach-a)})
	}
	return s
}

// log is a log of a test: a solid with its defects.
type log struct {
	l []api.Slice
	d []api.Defect
}

// logs returns valid logs.
func logs() []log {
	l := []log{{example(), nil}, {tapered(), kinds(1, 2, 3)}, {swept(), slices.Repeat(kinds(2), 64)}, {logOf(longest, block(-60, 120, -across, across)), nil}, {logOf(1, rows(0, 0, 1)), kinds(6)}}
	random := rand.New(rand.NewSource(1))
	for range 150 {
		var x log
		for range 1 + random.Intn(24) {
			x.l = append(x.l, api.Slice{Len: 1 + random.Intn(longest/24), Sec: randomSection(random)})
		}
		for range random.Intn(65) {
			x.d = append(x.d, is(1+random.Intn(6)))
		}
		l = append(l, x)
	}
	return l
}

// tight returns the class with the strictest limits that a log fits.
func tight(x log) api.Class {
	c := api.Class{MinDiameter: shape.Top(x.l), MinLength: solid.Length(x.l), MaxLength: solid.Length(x.l), MaxSweep: shape.Sweep(x.l), MaxTaper: shape.Taper(x.l), Price: 1}
	for _, d := range x.d {
		switch d.Kind {
		case api.DfKnot, api.DfDead:
			c.MaxKnots++
		case api.DfRot:
			c.MaxRot++
		}
	}
	return c
}

func TestEveryLimit(t *testing.T) { // P16.2
	for _, x := range logs() {
		c := tight(x)
		if !class.Fits(c, x.l, x.d) {
			fail(t, "%v does not fit %v", x, c)
		}
		for place := minDiameter; place <= price; place++ {
			looser := 1
			if place == minDiameter || place == minLength {
				looser = -1
			}
			n := *numbers(&c)[place]
			if !class.Fits(with(c, place, n+looser), x.l, x.d) {
				fail(t, "%v does not fit %v, loosened at the place %d", x, c, place)
			}
			if ok := class.Fits(with(c, place, n-looser), x.l, x.d); ok != (place == price) {
				fail(t, "%v fits %v, tightened at the place %d: %v", x, c, place, ok)
			}
		}
	}
}

func TestOf(t *testing.T) { // P16.3
	good, loose, strict := permitting("good"), permitting("loose"), with(permitting("strict"), minDiameter, 226)
	for i, x := range []struct {
		c    []api.Class
		want int
		ok   bool
	}{
		{nil, 0, false}, {[]api.Class{}, 0, false}, {[]api.Class{strict}, 0, false}, {[]api.Class{good}, 0, true}, {[]api.Class{good, loose}, 0, true}, {[]api.Class{strict, good, loose}, 1, true}, {[]api.Class{good, strict, loose}, 0, true}, {append(several(15), good), 15, true}, {append(several(14), good, loose), 14, true}, {several(16), 0, false}, {append(several(3), strict), 0, false},
		// Check refuses these lists.
		{append(several(16), good), 0, false}, {append([]api.Class{good}, several(16)...), 0, false}, {[]api.Class{good, good}, 0, false}, {[]api.Class{good, named("")}, 0, false}, {[]api.Class{named(""), good}, 0, false}, {[]api.Class{good, with(loose, price, -1)}, 0, false}, {[]api.Class{good, with(loose, minLength, longest+1)}, 0, false}, {[]api.Class{with(strict, price, most+1), good}, 0, false}, {[]api.Class{loosest()}, 0, false}, {[]api.Class{with(good, maxTaper, most+1)}, 0, false}, {[]api.Class{with(good, minDiameter, -1)}, 0, false},
	} {
		if n, ok := class.Of(x.c, example(), nil); n != x.want || ok != x.ok {
			fail(t, "%d: Of(%v) = %d, %v; want %d, %v", i, x.c, n, ok, x.want, x.ok)
		}
	}
}

// randomClasses returns a list of classes, each of which many logs fit.
func randomClasses(random *rand.Rand) []api.Class {
	var l []api.Class
	for i := range random.Intn(17) {
		c := permitting(fmt.Sprint("r", i))
		for range random.Intn(3) {
			switch place := random.Intn(8); place {
			case minDiameter:
				c.MinDiameter = random.Intn(500)
			case minLength:
				c.MinLength = random.Intn(longest / 2)
			case maxLength:
				c.MaxLength = longest/2 + random.Intn(longest/2)
			case maxSweep, maxTaper:
				c = with(c, place, random.Intn(1500))
			case maxKnots, maxRot:
				c = with(c, place, random.Intn(20))
			}
		}
		l = append(l, with(c, price, random.Intn(most+1)))
	}
	return l
}

func TestFirstClass(t *testing.T) { // P16.3, P16.4
	random := rand.New(rand.NewSource(2))
	for _, x := range logs() {
		for range 20 {
			c := randomClasses(random)
			if e := class.Check(c); e != api.OK {
				fail(t, "Check(%v) is %v", c, e)
			}
			want, found, worth := 0, false, 0
			for i := len(c) - 1; i >= 0; i-- {
				if class.Fits(c[i], x.l, x.d) {
					want, found, worth = i, true, priceOf(c[i].Price, x.l)
				}
			}
			if i, ok := class.Of(c, x.l, x.d); i != want || ok != found {
				fail(t, "Of(%v, %v) = %d, %v; want %d, %v", c, x, i, ok, want, found)
			}
			if p := class.Price(c, x.l, x.d); p != worth {
				fail(t, "Price(%v, %v) = %d; want %d", c, x, p, worth)
			}
		}
	}
}

// priceOf computes a price for each m3 with big numbers, slice by slice.
func priceOf(each int, l []api.Slice) int {
	volume := new(big.Int)
	for _, s := range l {
		volume.Add(volume, big.NewInt(int64(s.Len)*int64(section.Area(s.Sec))))
	}
	worth := volume.Mul(volume, big.NewInt(int64(each)))
	return int(worth.Div(worth, big.NewInt(1e9)).Int64())
}

func TestPrice(t *testing.T) { // P16.4
	cube := func(length int) []api.Slice { return logOf(length, block(-50, 100, -500, 500)) }
	full := logOf(longest, block(-60, 120, -across, across))
	for i, x := range []struct {
		each int
		l    []api.Slice
		want int
	}{
		{100, example(), 12}, {0, example(), 0}, {1, example(), 0}, {9, example(), 1}, {8, example(), 0}, {25, example(), 3}, {24, example(), 2}, {most, example(), 120000},
		// 1000 slices of 1 mm of the cube are 1 m3.
		{1, cube(1000), 1}, {1, cube(999), 0}, {1, cube(1001), 1}, {1, cube(1999), 1}, {1, cube(2000), 2}, {most, cube(999), 999000}, {999, cube(1001), 999}, {999, cube(1002), 1000},
		{most, full, 28800000}, {1, full, 28}, {most, logOf(1, rows(0, 0, 1)), 0}, {most, logOf(99, rows(0, 0, 1)), 0}, {most, logOf(100, rows(0, 0, 1)), 1}, {most, tapered(), 5400}, {109, logOf(2999, square()), 13},
	} {
		if p := class.Price([]api.Class{with(permitting("a"), price, x.each)}, x.l, nil); p != x.want {
			fail(t, "%d: %d for each m3 of %v: %d; want %d", i, x.each, x.l, p, x.want)
		}
	}
	strict, cheap, dear := with(permitting("strict"), minDiameter, 1000), with(permitting("cheap"), price, 50), with(permitting("dear"), price, 500)
	strict.Price = most
	for i, x := range []struct {
		c    []api.Class
		want int
	}{
		{nil, 0}, {[]api.Class{strict}, 0}, {[]api.Class{cheap, dear}, 6}, {[]api.Class{dear, cheap}, 60}, {[]api.Class{strict, dear, cheap}, 60}, {[]api.Class{strict, cheap, dear}, 6}, {append(several(15), dear), 60}, {append(several(16), dear), 0}, {[]api.Class{dear, dear}, 0}, {[]api.Class{dear, named("Dear")}, 0}, {[]api.Class{dear, with(cheap, price, -1)}, 0}, {[]api.Class{with(dear, price, most+1)}, 0}, {[]api.Class{with(dear, price, math.MaxInt)}, 0}, {[]api.Class{with(dear, price, math.MinInt)}, 0},
	} {
		if p := class.Price(x.c, example(), nil); p != x.want {
			fail(t, "%d: Price(%v) = %d; want %d", i, x.c, p, x.want)
		}
	}
	if p := class.Price([]api.Class{with(dear, maxRot, 0), cheap}, example(), kinds(3)); p != 6 {
		t.Error("the price of a log with rot:", p)
	}
}

func TestLimits(t *testing.T) { // P16.5
	random := rand.New(rand.NewSource(3))
	all := logs()
	for _, x := range all {
		for range 3 {
			for _, c := range randomClasses(random) {
				if class.Fits(c, x.l, x.d) {
					stillFits(t, random, c, x)
				}
			}
			// Most logs are as good as their tight class in some measures only.
			c := tight(all[random.Intn(len(all))])
			if class.Fits(c, x.l, x.d) {
				stillFits(t, random, c, x)
			}
		}
		stillFits(t, random, tight(x), x)
	}
}

// stillFits tests what a log that fits a class must fit, too.
func stillFits(t *testing.T, random *rand.Rand, c api.Class, x log) {
	t.Helper()
	looser := c
	for place := minDiameter; place < price; place++ {
		by := random.Intn(3) * random.Intn(1000)
		if place == minDiameter || place == minLength {
			by = -by
		}
		*numbers(&looser)[place] += by
	}
	if !class.Fits(looser, x.l, x.d) {
		fail(t, "%v fits %v, but not %v", x, c, looser)
	}
	for i := range x.d {
		if less := slices.Delete(slices.Clone(x.d), i, i+1); !class.Fits(c, x.l, less) {
			fail(t, "%v does not fit %v any more without the defect %d", x, c, i)
		}
	}
}

func TestOtherDefects(t *testing.T) { // P16.5
	random := rand.New(rand.NewSource(4))
	for _, x := range logs() {
		for _, c := range append(randomClasses(random), tight(x), with(tight(x), maxKnots, 3), with(tight(x), maxRot, 3)) {
			fits := class.Fits(c, x.l, x.d)
			for _, kind := range []int{api.DfCrack, api.DfResin, api.DfInsect} {
				more := slices.Insert(slices.Clone(x.d), random.Intn(len(x.d)+1), is(kind))
				if ok := class.Fits(c, x.l, more); ok != fits && defect.Check(more) == api.OK {
					fail(t, "%v fits %v: %v; with one more defect of the kind %d: %v", x, c, fits, kind, ok)
				}
			}
		}
	}
}

func TestContinuedList(t *testing.T) { // P16.6
	random := rand.New(rand.NewSource(5))
	for _, x := range logs() {
		for range 10 {
			c := randomClasses(random)
			for count := range c {
				i, ok := class.Of(c[:count], x.l, x.d)
				if !ok {
					continue
				}
				if j, ok := class.Of(c, x.l, x.d); j != i || !ok {
					fail(t, "the class of %v in %v is %d; if %d classes are continued, it is %d, %v", x, c[:count], i, count, j, ok)
				}
				if p, q := class.Price(c[:count], x.l, x.d), class.Price(c, x.l, x.d); p != q {
					fail(t, "the price of %v for %v is %d; if %d classes are continued, it is %d", x, c[:count], p, count, q)
				}
				if j, ok := class.Of(append(slices.Clone(c), c[i]), x.l, x.d); j != 0 || ok {
					fail(t, "the class of %v in a list that is not valid is %d, %v", x, j, ok)
				}
			}
		}
	}
}

func TestExamples(t *testing.T) { // P16.1, P16.2, P16.4
	if v, d := solid.Volume(example()), shape.Top(example()); v != 120000000 || d != 225 {
		t.Error("the log of the examples:", v, d)
	}
	c := api.Class{Name: "a", MinDiameter: 225, MinLength: 3000, MaxLength: 3000, Price: 100}
	if !class.Fits(c, example(), nil) || class.Fits(with(c, minDiameter, 226), example(), nil) || class.Fits(with(c, maxLength, 2999), example(), nil) {
		t.Error("example 1: the class")
	}
	if p := class.Price([]api.Class{c}, example(), nil); p != 12 {
		t.Error("example 1: the price", p)
	}
	if class.Fits(c, example(), kinds(api.DfDead)) || !class.Fits(with(c, maxKnots, 1), example(), kinds(api.DfDead)) {
		t.Error("example 2")
	}
	if class.Check([]api.Class{named("a"), named("a")}) != api.ErrExists || class.Check([]api.Class{with(with(named("a"), minLength, 5), maxLength, 4)}) != api.ErrRange {
		t.Error("example 3")
	}
}

func TestArgumentsStay(t *testing.T) { // R3
	// The spare capacity behind the arguments belongs to the caller, too.
	classes := append(several(3), permitting("last"), named("spare"))
	given := func() []api.Slice { return append(tapered(), logOf(7, square())...) }
	l, d := given(), kinds(1, 2, 3, 4)
	before := slices.Clone(classes)
	for range 2 {
		class.Check(classes[:4])
		class.Fits(classes[3], l[:2], d[:3])
		if i, ok := class.Of(classes[:4], l[:2], d[:3]); i != 3 || !ok {
			t.Error("the class of the log:", i, ok)
		}
		class.Price(classes[:4], l[:2], d[:3])
	}
	if !slices.Equal(classes, before) || !slices.Equal(d, kinds(1, 2, 3, 4)) {
		fail(t, "the classes or the defects became %v and %v", classes, d)
	}
	for i, s := range given() {
		if l[i].Len != s.Len || !section.Equal(l[i].Sec, s.Sec) {
			fail(t, "the slice %d became %v", i, l[i])
		}
	}
}
