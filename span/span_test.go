package span_test

import (
	"math"
	"math/big"
	"math/rand"
	"sawmill/api"
	"sawmill/span"
	"slices"
	"testing"
)

// list returns the spans whose ends are given in pairs.
func list(ends ...int) []api.Span {
	var l []api.Span
	for i := 0; i < len(ends); i += 2 {
		l = append(l, api.Span{A: ends[i], B: ends[i+1]})
	}
	return l
}

// ends returns numbers at both ends of an int, around zero, and between.
func ends() []int {
	return []int{math.MinInt, math.MinInt + 1, math.MinInt + 2, -1 << 62, -2, -1, 0, 1, 2, 1 << 62, math.MaxInt - 2, math.MaxInt - 1, math.MaxInt}
}

func bigInt(n int) *big.Int { return big.NewInt(int64(n)) }

// bigLen is the exact number of integers of a span.
func bigLen(s api.Span) *big.Int {
	n := new(big.Int).Sub(bigInt(s.B), bigInt(s.A))
	if n.Sign() < 0 {
		return new(big.Int)
	}
	return n
}

// bounded is n as an int, or MaxInt if n is greater.
func bounded(n *big.Int) int {
	if !n.IsInt64() {
		return math.MaxInt
	}
	return int(n.Int64())
}

// width is how many integers a mask can contain: the integer n is in its set if bit n is 1.
const width = 8

// fromMask returns the canonical list of the set of a mask.
func fromMask(mask int) []api.Span {
	var l []api.Span
	for n := range width {
		if mask>>n&1 == 0 {
			continue
		}
		if n > 0 && mask>>(n-1)&1 == 1 {
			l[len(l)-1].B = n + 1
		} else {
			l = append(l, api.Span{A: n, B: n + 1})
		}
	}
	return l
}

// toMask returns the mask of the set of a list whose numbers are from 0 to width.
func toMask(l []api.Span) int {
	mask := 0
	for _, s := range l {
		for n := s.A; n < s.B; n++ {
			mask |= 1 << n
		}
	}
	return mask
}

// shortLists returns all lists of up to two spans with ends from 0 to 3, also empty and reversed ones.
func shortLists() [][]api.Span {
	lists := [][]api.Span{nil}
	for i := range 16 {
		lists = append(lists, list(i/4, i%4))
		for k := range 16 {
			lists = append(lists, list(i/4, i%4, k/4, k%4))
		}
	}
	return lists
}

// longList returns a list of up to most spans in any order with ends from 0 to width, of which many overlap, touch or are empty.
func longList(r *rand.Rand, most int) []api.Span {
	var l []api.Span
	for range r.Intn(most + 1) {
		a := r.Intn(width + 1)
		l = append(l, api.Span{A: a, B: min(max(a+r.Intn(5)-1, 0), width)})
	}
	return l
}

func TestLen(t *testing.T) { // P3.1
	for _, x := range [][3]int{
		{-2, 3, 5}, {0, 1, 1}, {0, 0, 0}, {5, 2, 0}, {-3, -1, 2}, {math.MaxInt, math.MaxInt, 0}, {math.MinInt, math.MinInt, 0}, {math.MaxInt, math.MinInt, 0}, {1, math.MinInt, 0}, {math.MinInt, math.MinInt + 1, 1}, {math.MaxInt - 1, math.MaxInt, 1},
		{0, math.MaxInt, math.MaxInt}, {1, math.MaxInt, math.MaxInt - 1}, {-1, math.MaxInt, math.MaxInt}, {math.MinInt, -2, math.MaxInt - 1}, {math.MinInt, -1, math.MaxInt}, {math.MinInt, 0, math.MaxInt}, {math.MinInt, math.MaxInt, math.MaxInt},
	} {
		if n := span.Len(api.Span{A: x[0], B: x[1]}); n != x[2] {
			t.Errorf("Len({%d, %d}) = %d; want %d", x[0], x[1], n, x[2])
		}
	}
	for _, a := range ends() {
		for _, b := range ends() {
			s := api.Span{A: a, B: b}
			if n, want := span.Len(s), bounded(bigLen(s)); n != want {
				t.Errorf("Len(%v) = %d; want %d", s, n, want)
			}
		}
	}
}

func TestMeet(t *testing.T) { // P3.2
	for _, x := range [][6]int{
		{1, 5, 3, 9, 3, 5}, {3, 9, 1, 5, 3, 5}, {1, 9, 3, 5, 3, 5}, {3, 5, 1, 9, 3, 5}, {1, 5, 1, 5, 1, 5}, {1, 5, 4, 5, 4, 5},
		{1, 3, 3, 5, 0, 0}, {3, 5, 1, 3, 0, 0}, {1, 2, 8, 9, 0, 0}, {5, 5, 1, 9, 0, 0}, {1, 9, 5, 5, 0, 0}, {7, 2, 1, 9, 0, 0}, {1, 9, 7, 2, 0, 0}, {7, 2, 7, 2, 0, 0}, {5, 5, 5, 5, 0, 0},
		{math.MinInt, math.MaxInt, -1, math.MaxInt, -1, math.MaxInt}, {math.MinInt, 1, 0, math.MaxInt, 0, 1}, {math.MinInt, 0, 0, math.MaxInt, 0, 0}, {math.MaxInt, math.MaxInt, math.MaxInt, math.MaxInt, 0, 0}, {math.MaxInt, math.MinInt, math.MinInt, math.MaxInt, 0, 0},
	} {
		a, b, want := api.Span{A: x[0], B: x[1]}, api.Span{A: x[2], B: x[3]}, api.Span{A: x[4], B: x[5]}
		if s := span.Meet(a, b); s != want {
			t.Errorf("Meet(%v, %v) = %v; want %v", a, b, s, want)
		}
	}
	for i := range 625 {
		a, b := api.Span{A: i / 125, B: i / 25 % 5}, api.Span{A: i / 5 % 5, B: i % 5}
		want := api.Span{}
		if l := fromMask(toMask([]api.Span{a}) & toMask([]api.Span{b})); len(l) > 0 {
			want = l[0]
		}
		if s := span.Meet(a, b); s != want {
			t.Errorf("Meet(%v, %v) = %v; want %v", a, b, s, want)
		}
	}
}

func TestCanon(t *testing.T) { // P3.3
	for _, x := range []struct{ l, want []api.Span }{
		{list(5, 8, 1, 3, 7, 7, 3, 4, 6, 9), list(1, 4, 5, 9)},
		{nil, nil}, {[]api.Span{}, nil}, {list(3, 3), nil}, {list(3, 1), nil}, {list(0, 0, 5, 2, -1, -1), nil},
		{list(1, 2), list(1, 2)}, {list(1, 2, 2, 3), list(1, 3)}, {list(2, 3, 1, 2), list(1, 3)}, {list(1, 2, 3, 4), list(1, 2, 3, 4)}, {list(3, 4, 1, 2), list(1, 2, 3, 4)},
		{list(1, 9, 2, 3), list(1, 9)}, {list(2, 3, 1, 9), list(1, 9)}, {list(1, 9, 2, 3, 4, 12), list(1, 12)}, {list(1, 5, 1, 9, 1, 3), list(1, 9)}, {list(1, 2, 1, 2, 1, 2), list(1, 2)},
		{list(1, 3, 5, 4, 6, 7), list(1, 3, 6, 7)}, {list(1, 3, 4, 2, 2, 8), list(1, 8)}, {list(3, 3, 1, 3, 4, 5), list(1, 3, 4, 5)}, {list(0, 3, 4, 4, 5, 9), list(0, 3, 5, 9)},
		{list(math.MinInt, math.MaxInt), list(math.MinInt, math.MaxInt)}, {list(0, math.MaxInt, math.MinInt, 0), list(math.MinInt, math.MaxInt)}, {list(0, math.MaxInt, math.MinInt, -1), list(math.MinInt, -1, 0, math.MaxInt)}, {list(math.MaxInt, math.MaxInt, math.MinInt, math.MinInt, math.MaxInt, math.MinInt), nil}, {list(math.MaxInt-1, math.MaxInt, math.MinInt, math.MinInt+1), list(math.MinInt, math.MinInt+1, math.MaxInt-1, math.MaxInt)},
	} {
		if l := span.Canon(x.l); !slices.Equal(l, x.want) {
			t.Errorf("Canon(%v) = %v; want %v", x.l, l, x.want)
		}
	}
	r := rand.New(rand.NewSource(3))
	for range 20000 {
		l := longList(r, 12)
		if got, want := span.Canon(l), fromMask(toMask(l)); !slices.Equal(got, want) {
			t.Fatalf("Canon(%v) = %v; want %v", l, got, want)
		}
	}
}

func TestIs(t *testing.T) { // P3.3
	for _, l := range [][]api.Span{nil, {}, list(0, 1), list(-5, 7), list(1, 2, 3, 4), list(1, 2, 3, 4, 9, 12), list(math.MinInt, math.MaxInt), list(math.MinInt, -1, 0, math.MaxInt)} {
		if !span.Is(l) {
			t.Errorf("%v is canonical", l)
		}
	}
	for _, l := range [][]api.Span{list(0, 0), list(1, 0), list(math.MaxInt, math.MinInt), list(1, 2, 2, 3), list(1, 3, 2, 4), list(3, 4, 1, 2), list(1, 9, 3, 4), list(1, 2, 1, 2), list(1, 2, 4, 4), list(1, 2, 5, 4), list(4, 4, 5, 6), list(1, 2, 4, 5, 5, 6), list(math.MinInt, 0, 0, math.MaxInt), list(0, 1, math.MinInt, -1)} {
		if span.Is(l) {
			t.Errorf("%v is not canonical", l)
		}
	}
	r := rand.New(rand.NewSource(4))
	for range 20000 {
		l := longList(r, 4)
		if span.Is(l) != slices.Equal(l, fromMask(toMask(l))) {
			t.Fatalf("Is(%v) = %v", l, span.Is(l))
		}
	}
}

func TestSets(t *testing.T) { // P3.4
	whole := list(math.MinInt, math.MaxInt)
	for _, x := range []struct{ a, b, union, common, minus []api.Span }{
		{list(0, 10), list(3, 5), list(0, 10), list(3, 5), list(0, 3, 5, 10)},
		{list(3, 5), list(0, 10), list(0, 10), list(3, 5), nil},
		{list(0, 4, 6, 9), list(2, 7), list(0, 9), list(2, 4, 6, 7), list(0, 2, 7, 9)},
		{nil, nil, nil, nil, nil}, {list(1, 3), nil, list(1, 3), nil, list(1, 3)}, {nil, list(1, 3), list(1, 3), nil, nil},
		{list(5, 5, 9, 2), list(4, 1), nil, nil, nil}, {list(1, 3, 9, 2), list(4, 1), list(1, 3), nil, list(1, 3)},
		{list(1, 3), list(3, 5), list(1, 5), nil, list(1, 3)}, {list(3, 5), list(1, 3), list(1, 5), nil, list(3, 5)}, {list(1, 3), list(4, 5), list(1, 3, 4, 5), nil, list(1, 3)},
		{list(4, 6, 0, 2, 2, 4), list(5, 9, 1, 3), list(0, 9), list(1, 3, 5, 6), list(0, 1, 3, 5)},
		{list(0, 2, 4, 6, 8, 10), list(1, 9), list(0, 10), list(1, 2, 4, 6, 8, 9), list(0, 1, 9, 10)}, {list(1, 9), list(0, 2, 4, 6, 8, 10), list(0, 10), list(1, 2, 4, 6, 8, 9), list(2, 4, 6, 8)},
		{list(0, 3, 4, 7), list(0, 3, 4, 7), list(0, 3, 4, 7), list(0, 3, 4, 7), nil},
		{whole, whole, whole, whole, nil}, {whole, nil, whole, nil, whole}, {nil, whole, whole, nil, nil}, {whole, list(0, 1), whole, list(0, 1), list(math.MinInt, 0, 1, math.MaxInt)},
		{whole, list(math.MinInt, math.MinInt+1, math.MaxInt-1, math.MaxInt), whole, list(math.MinInt, math.MinInt+1, math.MaxInt-1, math.MaxInt), list(math.MinInt+1, math.MaxInt-1)},
		{list(math.MinInt, 0), list(0, math.MaxInt), whole, nil, list(math.MinInt, 0)}, {list(math.MaxInt, math.MaxInt), list(math.MaxInt, math.MinInt), nil, nil, nil},
	} {
		checkSet(t, "Union", x.a, x.b, span.Union(x.a, x.b), x.union)
		checkSet(t, "Common", x.a, x.b, span.Common(x.a, x.b), x.common)
		checkSet(t, "Minus", x.a, x.b, span.Minus(x.a, x.b), x.minus)
	}
}

func checkSet(t *testing.T, name string, a, b, got, want []api.Span) {
	t.Helper()
	if !slices.Equal(got, want) {
		t.Fatalf("%s(%v, %v) = %v; want %v", name, a, b, got, want)
	}
}

func TestTotal(t *testing.T) { // P3.5
	for _, x := range []struct {
		l    []api.Span
		want int
	}{
		{list(0, 4, 2, 6), 6}, {nil, 0}, {list(3, 3), 0}, {list(5, 1), 0}, {list(0, 4), 4}, {list(4, 6, 0, 2), 4}, {list(0, 2, 2, 5), 5}, {list(0, 5, 0, 5), 5}, {list(0, 9, 9, 3), 9}, {list(-3, -1, 4, 4), 2},
		{list(0, math.MaxInt), math.MaxInt}, {list(math.MinInt, math.MaxInt), math.MaxInt}, {list(math.MinInt, 0), math.MaxInt}, {list(math.MinInt, -1), math.MaxInt}, {list(math.MinInt, -2), math.MaxInt - 1},
		{list(math.MinInt, -2, 0, 1), math.MaxInt}, {list(math.MinInt, -2, 0, 2), math.MaxInt}, {list(math.MinInt, -2, 5, 4), math.MaxInt - 1}, {list(math.MinInt, -1, 0, math.MaxInt), math.MaxInt}, {list(-1<<62, 0, 1, 1<<62), math.MaxInt}, {list(-1<<62, 0, 1, 1<<62, math.MaxInt-1, math.MaxInt), math.MaxInt}, {list(-1<<62, 0, 2, 1<<62), math.MaxInt - 1}, {list(math.MinInt, -1, math.MinInt, -1), math.MaxInt},
	} {
		if n := span.Total(x.l); n != x.want {
			t.Errorf("Total(%v) = %d; want %d", x.l, n, x.want)
		}
	}
	r := rand.New(rand.NewSource(5))
	for range 5000 {
		l := longList(r, 8)
		n := 0
		for mask := toMask(l); mask > 0; mask >>= 1 {
			n += mask & 1
		}
		if span.Total(l) != n {
			t.Fatalf("Total(%v) = %d; want %d", l, span.Total(l), n)
		}
	}
}

func TestHas(t *testing.T) { // P3.5
	for _, x := range []struct {
		l    []api.Span
		n    int
		want bool
	}{
		{list(1, 3), 0, false}, {list(1, 3), 1, true}, {list(1, 3), 2, true}, {list(1, 3), 3, false}, {list(5, 8, 1, 3), 2, true}, {list(5, 8, 1, 3), 4, false}, {list(5, 8, 1, 3), 7, true}, {list(1, 9, 3, 4), 5, true},
		{nil, 0, false}, {list(0, 0), 0, false}, {list(3, 1), 1, false}, {list(3, 1), 2, false}, {list(3, 1), 3, false}, {list(3, 1, 2, 2, 2, 3), 2, true},
		{list(math.MinInt, math.MaxInt), math.MinInt, true}, {list(math.MinInt, math.MaxInt), math.MaxInt - 1, true}, {list(math.MinInt, math.MaxInt), math.MaxInt, false}, {list(math.MaxInt, math.MinInt), 0, false}, {list(math.MinInt+1, 0), math.MinInt, false}, {list(0, math.MaxInt), math.MaxInt, false},
	} {
		if got := span.Has(x.l, x.n); got != x.want {
			t.Errorf("Has(%v, %d) = %v", x.l, x.n, got)
		}
	}
}

func TestLongest(t *testing.T) { // P3.5
	for _, x := range []struct {
		l    []api.Span
		want api.Span
		ok   bool
	}{
		{list(0, 2, 5, 8, 10, 13), api.Span{A: 5, B: 8}, true}, {list(10, 13, 5, 8, 0, 2), api.Span{A: 5, B: 8}, true}, {list(1, 2), api.Span{A: 1, B: 2}, true}, {list(0, 2, 5, 6), api.Span{A: 0, B: 2}, true},
		{list(10, 14, 0, 3, 3, 5), api.Span{A: 0, B: 5}, true}, {list(10, 14, 0, 3, 2, 4), api.Span{A: 0, B: 4}, true}, {list(10, 14, 2, 3, 1, 9, 9, 9), api.Span{A: 1, B: 9}, true}, {list(-1, 0, 9, 1), api.Span{A: -1, B: 0}, true},
		{nil, api.Span{}, false}, {list(3, 3), api.Span{}, false}, {list(9, 1), api.Span{}, false}, {list(9, 1, 4, 4), api.Span{}, false}, {list(math.MaxInt, math.MaxInt), api.Span{}, false}, {list(math.MaxInt, math.MinInt), api.Span{}, false},
		{list(0, 5, math.MinInt, -1), api.Span{A: math.MinInt, B: -1}, true}, {list(math.MinInt, math.MaxInt), api.Span{A: math.MinInt, B: math.MaxInt}, true}, {list(0, math.MaxInt, math.MinInt, -1), api.Span{A: math.MinInt, B: -1}, true}, {list(math.MinInt, -2, 0, math.MaxInt), api.Span{A: 0, B: math.MaxInt}, true}, {list(math.MinInt, -9, -1, math.MaxInt), api.Span{A: -1, B: math.MaxInt}, true},
	} {
		if s, ok := span.Longest(x.l); s != x.want || ok != x.ok {
			t.Errorf("Longest(%v) = %v, %v; want %v, %v", x.l, s, ok, x.want, x.ok)
		}
	}
	for mask := range 1 << width {
		want := api.Span{}
		for _, s := range fromMask(mask) {
			if s.B-s.A > want.B-want.A {
				want = s
			}
		}
		if s, ok := span.Longest(fromMask(mask)); s != want || ok != (mask != 0) {
			t.Errorf("Longest(%v) = %v, %v; want %v", fromMask(mask), s, ok, want)
		}
	}
}

func TestMembersOfSmallSets(t *testing.T) { // P3.6
	lists := shortLists()
	for _, a := range lists {
		for _, b := range lists {
			checkMembers(t, a, b)
		}
	}
	for i := range 1 << width {
		for k := range 1 << width {
			checkMembers(t, fromMask(i), fromMask(k))
		}
	}
	r := rand.New(rand.NewSource(6))
	for range 20000 {
		checkMembers(t, longList(r, 9), longList(r, 9))
	}
}

// checkMembers compares the results with the masks of the sets; canonical lists of equal sets are equal.
func checkMembers(t *testing.T, a, b []api.Span) {
	t.Helper()
	i, k := toMask(a), toMask(b)
	checkSet(t, "Union", a, b, span.Union(a, b), fromMask(i|k))
	checkSet(t, "Common", a, b, span.Common(a, b), fromMask(i&k))
	checkSet(t, "Minus", a, b, span.Minus(a, b), fromMask(i&^k))
}

func TestMembersOfGreatSets(t *testing.T) { // P3.6
	r := rand.New(rand.NewSource(7))
	some := func() []api.Span {
		var l []api.Span
		for range r.Intn(6) {
			l = append(l, api.Span{A: ends()[r.Intn(len(ends()))], B: ends()[r.Intn(len(ends()))]})
		}
		return l
	}
	for range 5000 {
		a, b := some(), some()
		union, common, minus := span.Union(a, b), span.Common(a, b), span.Minus(a, b)
		for _, l := range [][]api.Span{union, common, minus} {
			if !isCanonical(l) {
				t.Fatalf("a set of %v and %v is %v", a, b, l)
			}
		}
		for _, n := range ends() {
			inA, inB := isMember(a, n), isMember(b, n)
			if isMember(union, n) != (inA || inB) || isMember(common, n) != (inA && inB) || isMember(minus, n) != (inA && !inB) {
				t.Fatalf("%d in %v: %v, in %v: %v, but Union %v, Common %v, Minus %v", n, a, inA, b, inB, union, common, minus)
			}
		}
		total := new(big.Int)
		for _, s := range union {
			total.Add(total, bigLen(s))
		}
		if n := span.Total(append(b, a...)); n != bounded(total) {
			t.Fatalf("Total of %v and %v = %d; want %v", a, b, n, total)
		}
	}
}

func isMember(l []api.Span, n int) bool {
	return slices.ContainsFunc(l, func(s api.Span) bool { return s.A <= n && n < s.B })
}

func isCanonical(l []api.Span) bool {
	for i, s := range l {
		if s.A >= s.B || i > 0 && s.A <= l[i-1].B {
			return false
		}
	}
	return true
}

func TestLaws(t *testing.T) { // P3.7
	r := rand.New(rand.NewSource(8))
	for range 20000 {
		a, b, c := longList(r, 6), longList(r, 6), longList(r, 6)
		for _, x := range []struct {
			law         string
			left, right []api.Span
		}{
			{"Union is commutative", span.Union(a, b), span.Union(b, a)},
			{"Common is commutative", span.Common(a, b), span.Common(b, a)},
			{"Union is associative", span.Union(a, span.Union(b, c)), span.Union(span.Union(a, b), c)},
			{"Common is associative", span.Common(a, span.Common(b, c)), span.Common(span.Common(a, b), c)},
			{"Common distributes", span.Common(a, span.Union(b, c)), span.Union(span.Common(a, b), span.Common(a, c))},
			{"Union distributes", span.Union(a, span.Common(b, c)), span.Common(span.Union(a, b), span.Union(a, c))},
			{"Minus a Union", span.Minus(a, span.Union(b, c)), span.Common(span.Minus(a, b), span.Minus(a, c))},
			{"Minus of Minus", span.Minus(a, span.Minus(a, b)), span.Common(a, b)},
		} {
			if !slices.Equal(x.left, x.right) {
				t.Fatalf("%s: %v, %v, %v give %v and %v", x.law, a, b, c, x.left, x.right)
			}
		}
	}
}

func TestMeasure(t *testing.T) { // P3.8
	const most = 1 << 60
	r := rand.New(rand.NewSource(9))
	number := func() int {
		near := []int{-most, -1, 0, 1, most}
		if i := r.Intn(2 * len(near)); i < len(near) {
			return near[i]
		}
		return r.Intn(2*most+1) - most
	}
	some := func() []api.Span {
		var l []api.Span
		for range r.Intn(7) {
			l = append(l, api.Span{A: number(), B: number()})
		}
		return l
	}
	for range 20000 {
		a, b := some(), some()
		if span.Total(span.Union(a, b))+span.Total(span.Common(a, b)) != span.Total(a)+span.Total(b) {
			t.Fatalf("%v and %v: Union %d, Common %d", a, b, span.Total(span.Union(a, b)), span.Total(span.Common(a, b)))
		}
		if span.Total(span.Minus(a, b)) != span.Total(a)-span.Total(span.Common(a, b)) {
			t.Fatalf("%v and %v: Minus %d, Common %d", a, b, span.Total(span.Minus(a, b)), span.Total(span.Common(a, b)))
		}
	}
	a := list(-most, most)
	if n := span.Total(a); n != 2*most {
		t.Errorf("Total(%v) = %d", a, n)
	}
}

// results calls every function that takes lists, and returns the lists that they return.
func results(a, b []api.Span) [][]api.Span {
	span.Is(a)
	span.Total(a)
	span.Has(a, 5)
	span.Longest(a)
	return [][]api.Span{span.Canon(a), span.Union(a, b), span.Union(b, a), span.Common(a, b), span.Common(b, a), span.Minus(a, b), span.Minus(b, a), span.Union(a, nil), span.Union(nil, a), span.Common(a, a), span.Minus(a, nil)}
}

func TestArgumentsAreLeftAlone(t *testing.T) { // R3
	for _, x := range [][2][]api.Span{
		{list(5, 8, 1, 3, 7, 7, 3, 4, 6, 9), list(9, 12, 2, 6, 4, 1)},
		{list(0, 2, 4, 6, 8, 10), list(1, 5, 9, 12)},
		{list(0, 2), nil},
	} {
		// The spare capacity behind a list belongs to the caller, too.
		a, b := append(slices.Clone(x[0]), list(100, 200)...), append(slices.Clone(x[1]), list(300, 400)...)
		before := [2][]api.Span{slices.Clone(a), slices.Clone(b)}
		for _, l := range results(a[:len(a)-1], b[:len(b)-1]) {
			for i := range l {
				l[i] = api.Span{A: -1, B: -2}
			}
		}
		if !slices.Equal(a, before[0]) || !slices.Equal(b, before[1]) {
			t.Errorf("%v and %v became %v and %v", before[0], before[1], a, b)
		}
	}
}

func TestResultsShareNoMemory(t *testing.T) { // R3
	a, b := list(0, 2, 4, 6, 8, 10), list(1, 5, 9, 12)
	lists := results(a, b)
	for i, l := range lists {
		before := slices.Clone(l)
		for k := range lists {
			if k != i {
				clear(lists[k])
			}
		}
		if !slices.Equal(l, before) {
			t.Errorf("result %d changed from %v to %v", i, before, l)
		}
		lists = results(a, b)
	}
}

func TestLongLists(t *testing.T) { // R1
	const n = 200000
	var even, odd []api.Span
	for i := n - 1; i >= 0; i-- {
		even = append(even, api.Span{A: 2 * i, B: 2*i + 1})
		odd = append(odd, api.Span{A: 2*i + 1, B: 2*i + 2})
	}
	if l := span.Union(even, odd); !slices.Equal(l, list(0, 2*n)) {
		t.Errorf("Union has %d spans", len(l))
	}
	if l := span.Common(even, odd); len(l) > 0 {
		t.Errorf("Common has %d spans", len(l))
	}
	if l := span.Minus(list(0, 2*n), odd); len(l) != n || span.Total(l) != n || !span.Is(l) {
		t.Errorf("Minus has %d spans", len(l))
	}
}
