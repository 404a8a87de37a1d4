package units_test

import (
	"math"
	"math/big"
	"sawmill/api"
	"sawmill/units"
	"testing"
)

// edges returns numbers at both ends of an int, around the powers of two at which products and differences stop fitting, and small ones.
func edges() []int {
	l := []int{math.MinInt, math.MinInt + 1, math.MinInt + 2, math.MaxInt - 2, math.MaxInt - 1, math.MaxInt, 3037000499, 3037000500, 1190112520884487201}
	for n := -7; n <= 7; n++ {
		l = append(l, n)
	}
	for _, n := range []int{10, 31, 99, 1000, 9999, 10000, 10001, 1 << 31, 1 << 32, 1<<32 + 1, 1e18, 1 << 62, 1<<62 + 1} {
		l = append(l, n, -n)
	}
	return l
}

// bigFloor is the exact floor of a / b, for b above or below 0.
func bigFloor(a, b *big.Int) *big.Int {
	q, m := new(big.Int).DivMod(a, b, new(big.Int))
	if b.Sign() < 0 && m.Sign() > 0 { // DivMod leaves a rest that is not negative
		q.Sub(q, big.NewInt(1))
	}
	return q
}

func bigInt(n int) *big.Int { return big.NewInt(int64(n)) }

func TestFloor(t *testing.T) { // P1.1
	for _, x := range [][3]int{{-7, 2, -4}, {7, -2, -4}, {7, 2, 3}, {-7, -2, 3}, {6, -3, -2}, {-6, 3, -2}, {0, 5, 0}, {0, -5, 0}, {1, math.MinInt, -1}, {math.MinInt, math.MinInt, 1}, {math.MaxInt, -1, -math.MaxInt}, {math.MinInt, 1, math.MinInt}, {math.MaxInt, math.MinInt, -1}} {
		if q, ok := units.Floor(x[0], x[1]); q != x[2] || !ok {
			t.Errorf("Floor(%d, %d) = %d, %v; want %d", x[0], x[1], q, ok, x[2])
		}
	}
	for _, x := range [][2]int{{1, 0}, {0, 0}, {math.MinInt, 0}, {math.MinInt, -1}} {
		if q, ok := units.Floor(x[0], x[1]); q != 0 || ok {
			t.Errorf("Floor(%d, %d) = %d, %v; want no value", x[0], x[1], q, ok)
		}
	}
	for _, a := range edges() {
		for _, b := range edges() {
			q, ok := units.Floor(a, b)
			if !hasQuotient(a, b) {
				if q != 0 || ok {
					t.Errorf("Floor(%d, %d) = %d, %v; want no value", a, b, q, ok)
				}
				continue
			}
			if want := bigFloor(bigInt(a), bigInt(b)); !ok || bigInt(q).Cmp(want) != 0 {
				t.Errorf("Floor(%d, %d) = %d, %v; want %v", a, b, q, ok, want)
			}
		}
	}
}

func hasQuotient(a, b int) bool { return b != 0 && (a != math.MinInt || b != -1) }

func TestNearest(t *testing.T) { // P1.2
	for _, x := range [][3]int{{5, 2, 3}, {-5, 2, -2}, {5, -2, -2}, {-5, -2, 3}, {7, -2, -3}, {-1, 3, 0}, {-2, 3, -1}, {1, 2, 1}, {-1, 2, 0}, {1, -2, 0}, {-1, -2, 1}, {1, 3, 0}, {2, 3, 1}, {6, 3, 2}, {math.MaxInt, 2, 1 << 62}, {math.MaxInt, math.MinInt, -1}, {1 << 62, math.MinInt, 0}, {-1 << 62, math.MinInt, 1}, {math.MinInt, math.MaxInt, -1}, {math.MaxInt, 1, math.MaxInt}} {
		if q, ok := units.Nearest(x[0], x[1]); q != x[2] || !ok {
			t.Errorf("Nearest(%d, %d) = %d, %v; want %d", x[0], x[1], q, ok, x[2])
		}
	}
	for _, a := range edges() {
		for _, b := range edges() {
			q, ok := units.Nearest(a, b)
			if !hasQuotient(a, b) {
				if q != 0 || ok {
					t.Errorf("Nearest(%d, %d) = %d, %v; want no value", a, b, q, ok)
				}
				continue
			}
			// a / b + 1/2 is (2 * a + b) / (2 * b)
			double := func(n int) *big.Int { return new(big.Int).Lsh(bigInt(n), 1) }
			want := bigFloor(new(big.Int).Add(double(a), bigInt(b)), double(b))
			if !ok || bigInt(q).Cmp(want) != 0 {
				t.Errorf("Nearest(%d, %d) = %d, %v; want %v", a, b, q, ok, want)
			}
		}
	}
}

func TestMulDiv(t *testing.T) { // P1.3
	for _, x := range []struct {
		a, b, c, want int
		e             api.Errno
	}{
		{-7, 1, 2, -4, api.OK}, {7, -1, 2, -4, api.OK}, {-7, -1, 2, 3, api.OK}, {7, 1, 2, 3, api.OK}, {-6, 1, 2, -3, api.OK},
		{1e18, 1e18, 1e18, 1e18, api.OK}, {0, math.MinInt, 1, 0, api.OK}, {-1, 1, math.MaxInt, -1, api.OK},
		{-1 << 62, 2, 1, math.MinInt, api.OK}, {1 << 62, -2, 1, math.MinInt, api.OK}, {math.MinInt, math.MinInt, math.MaxInt, 0, api.ErrRange},
		{math.MaxInt, math.MinInt, math.MaxInt, math.MinInt, api.OK}, {math.MinInt, -1, 2, 1 << 62, api.OK},
		{1 << 62, 2, 1, 0, api.ErrRange}, {math.MinInt, -1, 1, 0, api.ErrRange}, {math.MinInt, 3, 2, 0, api.ErrRange}, {math.MaxInt, 4, 3, 0, api.ErrRange},
		{math.MinInt, math.MinInt, 1, 0, api.ErrRange}, {math.MinInt, math.MaxInt, 1, 0, api.ErrRange},
		{31, -1190112520884487201, 2, 0, api.ErrRange}, // -(2^64 - 1/2)
		{1, 1, 0, 0, api.ErrRange}, {0, 0, 0, 0, api.ErrRange}, {1, 1, -1, 0, api.ErrRange}, {6, 1, math.MinInt, 0, api.ErrRange},
	} {
		if n, e := units.MulDiv(x.a, x.b, x.c); n != x.want || e != x.e {
			t.Errorf("MulDiv(%d, %d, %d) = %d, %v; want %d, %v", x.a, x.b, x.c, n, e, x.want, x.e)
		}
	}
	for _, a := range edges() {
		for _, b := range edges() {
			for _, c := range edges() {
				checkMulDiv(t, a, b, c)
			}
		}
	}
}

func checkMulDiv(t *testing.T, a, b, c int) {
	t.Helper()
	wanted, e := 0, api.ErrRange
	if c > 0 {
		if q := bigFloor(new(big.Int).Mul(bigInt(a), bigInt(b)), bigInt(c)); q.IsInt64() {
			wanted, e = int(q.Int64()), api.OK
		}
	}
	if n, got := units.MulDiv(a, b, c); n != wanted || got != e {
		t.Errorf("MulDiv(%d, %d, %d) = %d, %v; want %d, %v", a, b, c, n, got, wanted, e)
	}
}

func TestClamp(t *testing.T) { // P1.4
	for _, x := range [][4]int{
		{2, 1, 3, 2}, {0, 1, 3, 1}, {1, 1, 3, 1}, {3, 1, 3, 3}, {5, 1, 3, 3}, {-5, -3, -1, -3}, {4, 2, 2, 2}, {1, 2, 2, 2},
		{0, 3, 1, 3}, {2, 3, 1, 3}, {9, 3, 1, 3}, {0, math.MaxInt, math.MinInt, math.MaxInt},
		{math.MinInt, -1, 1, -1}, {math.MaxInt, -1, 1, 1}, {math.MaxInt, math.MinInt, math.MaxInt, math.MaxInt}, {math.MinInt, math.MinInt, math.MaxInt, math.MinInt},
	} {
		if n := units.Clamp(x[0], x[1], x[2]); n != x[3] {
			t.Errorf("Clamp(%d, %d, %d) = %d; want %d", x[0], x[1], x[2], n, x[3])
		}
	}
}

// parts returns values of k on both sides of its limits.
func parts() []int {
	return []int{math.MinInt, -3, -1, 0, 1, 2, 500, 4999, 5000, 5001, 9999, 10000, 10001, 20000, math.MaxInt}
}

func TestToward(t *testing.T) { // P1.5
	for _, x := range [][4]int{
		{2000, 2600, 500, 2030}, {2600, 2000, 500, 2570}, {10, 11, 1, 11}, {11, 10, 1, 10}, {10, 11, 9999, 11}, {5, 0, 1, 4}, {5, 5, 10000, 5}, {5, 5, 1, 5}, {0, 100, -3, 0}, {0, 100, 20000, 100},
		{0, 19, 1000, 1}, {0, -19, 1000, -1}, {0, 29, 1000, 2}, {0, -29, 1000, -2}, {10, 11, 0, 10},
		{math.MinInt, math.MaxInt, 5000, -1}, {math.MaxInt, math.MinInt, 5000, 0}, {math.MaxInt, math.MinInt, 10000, math.MinInt}, {math.MinInt, math.MaxInt, 1, math.MinInt + 1844674407370955}, {0, 100, math.MinInt, 0}, {0, 100, math.MaxInt, 100},
	} {
		if n := units.Toward(x[0], x[1], x[2]); n != x[3] {
			t.Errorf("Toward(%d, %d, %d) = %d; want %d", x[0], x[1], x[2], n, x[3])
		}
	}
	for _, a := range edges() {
		for _, b := range edges() {
			for _, k := range parts() {
				n := units.Toward(a, b, k)
				if n < min(a, b) || n > max(a, b) {
					t.Errorf("Toward(%d, %d, %d) = %d is not between them", a, b, k, n)
				}
				if want := bigToward(a, b, k); bigInt(n).Cmp(want) != 0 {
					t.Errorf("Toward(%d, %d, %d) = %d; want %v", a, b, k, n, want)
				}
			}
		}
	}
}

func bigToward(a, b, k int) *big.Int {
	k = min(max(k, 0), 10000)
	d := new(big.Int).Sub(bigInt(b), bigInt(a))
	sign := d.Sign()
	d.Mul(d, bigInt(k))
	d.Quo(d, bigInt(10000))
	if k > 0 && d.Sign() == 0 {
		d = bigInt(sign)
	}
	return d.Add(d, bigInt(a))
}

func TestRoot(t *testing.T) { // P1.6
	for n, want := range map[int]int{99: 9, 100: 10, 0: 0, 1: 1, 2: 1, 3: 1, 4: 2, -1: 0, -4: 0, math.MinInt: 0, math.MaxInt: 3037000499} {
		if r := units.Root(n); r != want {
			t.Errorf("Root(%d) = %d; want %d", n, r, want)
		}
	}
	for _, r := range []int{1, 2, 3, 10, 255, 256, 65535, 65536, 94906265, 94906266, 94906267, 1<<31 - 1, 1 << 31, 1<<31 + 1, 3037000498, 3037000499} {
		if got := units.Root(r * r); got != r {
			t.Errorf("Root(%d) = %d; want %d", r*r, got, r)
		}
		if got := units.Root(r*r - 1); got != r-1 {
			t.Errorf("Root(%d) = %d; want %d", r*r-1, got, r-1)
		}
	}
	for n := range 5000 {
		if r := units.Root(n); r*r > n || (r+1)*(r+1) <= n {
			t.Errorf("Root(%d) = %d", n, r)
		}
	}
}

func TestQuotientsLeaveARest(t *testing.T) { // P1.9
	for _, a := range edges() {
		for _, b := range edges() {
			q, ok := units.Floor(a, b)
			if !ok {
				continue
			}
			r := new(big.Int).Sub(bigInt(a), new(big.Int).Mul(bigInt(q), bigInt(b)))
			if r.Sign() != 0 && r.Sign() != bigInt(b).Sign() || r.CmpAbs(bigInt(b)) >= 0 {
				t.Errorf("%d = %d * %d + %v", a, q, b, r)
			}
			near, ok := units.Nearest(a, b)
			if !ok || near != q && (q == math.MaxInt || near != q+1) {
				t.Errorf("Nearest(%d, %d) = %d, %v, but Floor is %d", a, b, near, ok, q)
			}
			// |near - a / b| <= 1/2 where 2 * |near * b - a| <= |b|
			far := new(big.Int).Sub(new(big.Int).Mul(bigInt(near), bigInt(b)), bigInt(a))
			if far.Lsh(far, 1).CmpAbs(bigInt(b)) > 0 {
				t.Errorf("Nearest(%d, %d) = %d is more than 1/2 away", a, b, near)
			}
		}
	}
}

func TestProducts(t *testing.T) { // P1.10
	for _, a := range edges() {
		for _, b := range edges() {
			if b > 0 {
				if n, e := units.MulDiv(a, b, b); n != a || e != api.OK {
					t.Errorf("MulDiv(%d, %d, %d) = %d, %v", a, b, b, n, e)
				}
			}
			p := new(big.Int).Mul(bigInt(a), bigInt(b))
			n, e := units.MulDiv(a, b, 1)
			if p.IsInt64() && (e != api.OK || n != int(p.Int64())) || !p.IsInt64() && (e != api.ErrRange || n != 0) {
				t.Errorf("MulDiv(%d, %d, 1) = %d, %v; the product is %v", a, b, n, e, p)
			}
		}
	}
}

func TestStepsComeNearer(t *testing.T) { // P1.11
	for _, a := range edges() {
		for _, b := range edges() {
			if n := units.Toward(a, b, 10000); n != b {
				t.Errorf("Toward(%d, %d, 10000) = %d", a, b, n)
			}
			if n := units.Toward(a, b, 0); n != a {
				t.Errorf("Toward(%d, %d, 0) = %d", a, b, n)
			}
			for _, k := range parts() {
				n := units.Toward(a, b, k)
				if k > 0 && (a < b && (n <= a || n > b) || a > b && (n >= a || n < b)) {
					t.Errorf("Toward(%d, %d, %d) = %d is not nearer, or beyond", a, b, k, n)
				}
			}
		}
	}
	steps := 0
	for n := 0; n != 2600; n = units.Toward(n, 2600, 500) {
		if steps++; steps > 2600 {
			t.Fatal("steps do not arrive")
		}
	}
}
