package clock_test

import (
	"math"
	"math/rand"
	"sawmill/api"
	"sawmill/clock"
	"slices"
	"testing"
)

const (
	week     = 10080
	lastWeek = 992 * week // the week in which MaxTime, its minute 640, lies
)

// shifts returns the shifts whose ends are given in pairs.
func shifts(ends ...int) []api.Shift {
	var l []api.Shift
	for i := 0; i < len(ends); i += 2 {
		l = append(l, api.Shift{From: ends[i], Until: ends[i+1]})
	}
	return l
}

// manyShifts returns so many shifts of five minutes.
func manyShifts(count int) []api.Shift {
	var l []api.Shift
	for i := range count {
		l = append(l, api.Shift{From: 10 * i, Until: 10*i + 5})
	}
	return l
}

// weeks returns lists of shifts: short and long ones, at both ends of the week, touching ones, and random ones.
func weeks() [][]api.Shift {
	l := [][]api.Shift{
		shifts(0, week), shifts(0, 1), shifts(week-1, week), shifts(9000, 9001), shifts(360, 840), shifts(0, 10, 10, 20), shifts(0, 5040, 5040, week),
		shifts(0, 1, week-1, week), shifts(639, 642), shifts(640, 641), shifts(641, 700), shifts(0, 640), shifts(1, week-1), manyShifts(21),
		shifts(360, 840, 1800, 2280, 3240, 3720, 4680, 5160, 6120, 6600),
	}
	random := rand.New(rand.NewSource(1))
	for range 8 {
		ends := random.Perm(week + 1)[:2*(1+random.Intn(21))]
		slices.Sort(ends)
		l = append(l, shifts(ends...))
	}
	return l
}

// times returns numbers at both ends of the times and of an int, and around the ends of weeks and shifts.
func times(l []api.Shift) []int {
	all := []int{math.MinInt, -week, -1, 0, 1, lastWeek - 1, lastWeek, api.MaxTime - 1, api.MaxTime, api.MaxTime + 1, math.MaxInt}
	for _, start := range []int{0, week, 500 * week, 991 * week, lastWeek} {
		for _, s := range l {
			all = append(all, start+s.From-1, start+s.From, start+s.From+1, start+s.Until-1, start+s.Until)
		}
	}
	random := rand.New(rand.NewSource(2))
	for range 20 {
		all = append(all, random.Intn(api.MaxTime+1))
	}
	return all
}

// table counts the minutes of all weeks one by one: work[t] is the number of working minutes before t.
type table struct {
	open []bool
	work []int32
	last []int32 // last[n] is the working minute before which there are n working minutes
}

func count(l []api.Shift) table {
	var x table
	minutes := make([]bool, week)
	for _, s := range l {
		for i := s.From; i < s.Until; i++ {
			minutes[i] = true
		}
	}
	x.open = make([]bool, api.MaxTime+1)
	x.work = make([]int32, api.MaxTime+2)
	for t := range x.open {
		x.open[t] = minutes[t%week]
		x.work[t+1] = x.work[t]
		if x.open[t] {
			x.work[t+1]++
			x.last = append(x.last, int32(t))
		}
	}
	return x
}

func isTime(n int) bool { return n >= 0 && n <= 10000000 }

func (x table) next(at int) (int, api.Errno) {
	if !isTime(at) || int(x.work[at]) >= len(x.last) {
		return 0, api.ErrTime
	}
	return int(x.last[x.work[at]]), api.OK
}

func (x table) between(from, until int) int {
	if !isTime(from) || !isTime(until) || from > until {
		return 0
	}
	return int(x.work[until] - x.work[from])
}

func (x table) add(at, minutes int) (int, api.Errno) {
	switch {
	case !isTime(at):
		return 0, api.ErrTime
	case minutes < 0 || minutes > 10000000:
		return 0, api.ErrRange
	case minutes == 0:
		return at, api.OK
	}
	n := int(x.work[at]) + minutes
	if n > len(x.last) || x.last[n-1] == api.MaxTime { // the minute that begins at MaxTime ends too late
		return 0, api.ErrTime
	}
	return int(x.last[n-1]) + 1, api.OK
}

func calendar(t *testing.T, l []api.Shift) *clock.Calendar {
	t.Helper()
	c, e := clock.New(l)
	if c == nil || e != api.OK {
		t.Fatalf("New(%v) = %v, %v", l, c, e)
	}
	return c
}

func TestNew(t *testing.T) { // P7.1
	for _, x := range []struct {
		l []api.Shift
		e api.Errno
	}{
		{nil, api.ErrShort}, {[]api.Shift{}, api.ErrShort}, {manyShifts(20), api.OK}, {manyShifts(21), api.OK}, {manyShifts(22), api.ErrLong}, {make([]api.Shift, 22), api.ErrLong}, {make([]api.Shift, 21), api.ErrRange}, {make([]api.Shift, 100000), api.ErrLong},
		{shifts(0, 1), api.OK}, {shifts(0, week), api.OK}, {shifts(week-1, week), api.OK}, {shifts(5, 5), api.ErrRange}, {shifts(0, 0), api.ErrRange}, {shifts(6, 5), api.ErrRange}, {shifts(-1, 5), api.ErrRange}, {shifts(-2, -1), api.ErrRange}, {shifts(0, week+1), api.ErrRange}, {shifts(week, week), api.ErrRange}, {shifts(week, week+1), api.ErrRange},
		{shifts(math.MinInt, math.MaxInt), api.ErrRange}, {shifts(math.MaxInt, math.MinInt), api.ErrRange}, {shifts(math.MinInt, 5), api.ErrRange}, {shifts(0, math.MaxInt), api.ErrRange},
		{shifts(0, 10, 10, 20), api.OK}, {shifts(0, 10, 11, 20), api.OK}, {shifts(0, 10, 9, 20), api.ErrOrder}, {shifts(0, 10, 5, 20), api.ErrOrder}, {shifts(0, 10, 0, 10), api.ErrOrder}, {shifts(10, 20, 0, 10), api.ErrOrder}, {shifts(10, 20, 0, 30), api.ErrOrder}, {shifts(0, week, week-1, week), api.ErrOrder},
		{shifts(0, 10, 9, 9), api.ErrRange}, {shifts(0, 10, -1, 9), api.ErrRange}, {shifts(0, 10, 5, week+1), api.ErrRange}, {shifts(0, 10, 5, 20, 30, 30), api.ErrOrder}, {shifts(0, 10, 30, 30, 5, 20), api.ErrRange}, {shifts(0, 10, 20, 30, 10, 20), api.ErrOrder}, {append(manyShifts(20), shifts(190, 200)...), api.ErrOrder}, {append(manyShifts(20), shifts(week, week)...), api.ErrRange},
	} {
		if c, e := clock.New(x.l); e != x.e || (c != nil) != (e == api.OK) {
			t.Errorf("New(%.200v) = %v, %v; want %v", x.l, c, e, x.e)
		}
	}
}

func TestCalendarKeepsItsShifts(t *testing.T) { // R3
	l := shifts(0, 10, 20, 30)
	c, d := calendar(t, l), calendar(t, shifts(5, 6))
	if !slices.Equal(l, shifts(0, 10, 20, 30)) {
		t.Error("the argument has changed:", l)
	}
	l[0], l[1] = api.Shift{From: 100, Until: 200}, api.Shift{From: 300, Until: 400}
	for range 2 {
		if n := c.Work(0, week); n != 20 || !c.Open(5) || c.Open(15) || c.Open(100) {
			t.Error("the calendar has changed:", n)
		}
		if n := d.Work(0, week); n != 1 || !d.Open(5) || d.Open(6) {
			t.Error("the other calendar has changed:", n)
		}
	}
}

func TestCounted(t *testing.T) { // P7.2, P7.3, P7.4, P7.5
	for _, l := range weeks() {
		checkCounted(t, l)
	}
}

// checkCounted compares a calendar with the minutes counted one by one.
func checkCounted(t *testing.T, l []api.Shift) {
	t.Helper()
	c, want := calendar(t, l), count(l)
	all := times(l)
	random := rand.New(rand.NewSource(3))
	for _, at := range all {
		if open := isTime(at) && want.open[at]; c.Open(at) != open {
			t.Errorf("%v: Open(%d) = %v", l, at, !open)
		}
		wantNext, wantE := want.next(at)
		if n, e := c.Next(at); n != wantNext || e != wantE {
			t.Errorf("%v: Next(%d) = %d, %v; want %d, %v", l, at, n, e, wantNext, wantE)
		}
		for range 20 {
			other := all[random.Intn(len(all))]
			if n := c.Work(at, other); n != want.between(at, other) {
				t.Errorf("%v: Work(%d, %d) = %d; want %d", l, at, other, n, want.between(at, other))
			}
		}
		minutes := []int{math.MinInt, -1, 0, 1, 2, int(want.work[week]), int(want.work[week]) + 1, api.MaxTime, api.MaxTime + 1, math.MaxInt, random.Intn(len(want.last)), random.Intn(100)}
		if isTime(at) { // up to the last working minute, and more
			rest := len(want.last) - int(want.work[at])
			minutes = append(minutes, rest-1, rest, rest+1)
		}
		for _, n := range minutes {
			checkAdd(t, l, c, want, at, n)
		}
	}
}

func checkAdd(t *testing.T, l []api.Shift, c *clock.Calendar, want table, at, minutes int) {
	t.Helper()
	wantAt, wantE := want.add(at, minutes)
	if n, e := c.Add(at, minutes); n != wantAt || e != wantE {
		t.Errorf("%v: Add(%d, %d) = %d, %v; want %d, %v", l, at, minutes, n, e, wantAt, wantE)
	}
}

func TestOpen(t *testing.T) { // P7.2
	c := calendar(t, shifts(0, 10, 10, 20, week-1, week))
	for at, want := range map[int]bool{0: true, 9: true, 10: true, 19: true, 20: false, week - 2: false, week - 1: true, week: true, week + 20: false, lastWeek: true, lastWeek + 20: false, api.MaxTime: false, -1: false, -week: false, math.MinInt: false, math.MaxInt: false} {
		if c.Open(at) != want {
			t.Errorf("Open(%d) = %v", at, !want)
		}
	}
	always := calendar(t, shifts(0, week))
	for at, want := range map[int]bool{0: true, api.MaxTime: true, api.MaxTime + 1: false, -1: false, math.MinInt: false, math.MaxInt: false} {
		if always.Open(at) != want {
			t.Errorf("Open(%d) = %v, where the mill always works", at, !want)
		}
	}
}

func TestNext(t *testing.T) { // P7.3
	for _, x := range []struct {
		l        []api.Shift
		at, want int
		e        api.Errno
	}{
		{shifts(0, 10, 10, 20), 0, 0, api.OK}, {shifts(0, 10, 10, 20), 10, 10, api.OK}, {shifts(0, 10, 10, 20), 19, 19, api.OK}, {shifts(0, 10, 10, 20), 20, week, api.OK}, {shifts(0, 10, 15, 20), 10, 15, api.OK},
		{shifts(360, 840), 0, 360, api.OK}, {shifts(360, 840), 840, week + 360, api.OK}, {shifts(360, 840), week, week + 360, api.OK},
		{shifts(9000, 9001), 9999600, 0, api.ErrTime}, {shifts(9000, 9001), 991*week + 9000, 991*week + 9000, api.OK}, {shifts(9000, 9001), 991*week + 9001, 0, api.ErrTime},
		{shifts(640, 641), lastWeek, api.MaxTime, api.OK}, {shifts(640, 641), api.MaxTime, api.MaxTime, api.OK}, {shifts(641, 642), lastWeek, 0, api.ErrTime}, {shifts(0, 640), api.MaxTime, 0, api.ErrTime}, {shifts(0, week), api.MaxTime, api.MaxTime, api.OK},
		{shifts(0, week), -1, 0, api.ErrTime}, {shifts(0, week), api.MaxTime + 1, 0, api.ErrTime}, {shifts(0, week), math.MinInt, 0, api.ErrTime}, {shifts(0, week), math.MaxInt, 0, api.ErrTime},
	} {
		if n, e := calendar(t, x.l).Next(x.at); n != x.want || e != x.e {
			t.Errorf("%v: Next(%d) = %d, %v; want %d, %v", x.l, x.at, n, e, x.want, x.e)
		}
	}
}

func TestWork(t *testing.T) { // P7.4
	c := calendar(t, shifts(0, 10, 10, 20))
	for _, x := range [][3]int{{5, 15, 10}, {0, week, 20}, {15, week + 5, 10}, {20, week, 0}, {0, 0, 0}, {5, 5, 0}, {5, 6, 1}, {19, 20, 1}, {20, 21, 0}, {6, 5, 0}, {week, 0, 0}, {-1, 10, 0}, {-10, -5, 0}, {0, api.MaxTime, 993 * 20}, {0, api.MaxTime + 1, 0}, {api.MaxTime, api.MaxTime, 0}, {api.MaxTime + 1, api.MaxTime + 1, 0}, {math.MinInt, math.MaxInt, 0}, {0, math.MaxInt, 0}, {math.MinInt, 10, 0}, {math.MaxInt, math.MinInt, 0}} {
		if n := c.Work(x[0], x[1]); n != x[2] {
			t.Errorf("Work(%d, %d) = %d; want %d", x[0], x[1], n, x[2])
		}
	}
	if n := calendar(t, shifts(0, week)).Work(0, api.MaxTime); n != api.MaxTime {
		t.Error("where the mill always works, it works", n, "minutes")
	}
}

func TestAdd(t *testing.T) { // P7.5
	for _, x := range []struct {
		l                 []api.Shift
		at, minutes, want int
		e                 api.Errno
	}{
		{shifts(360, 840), 0, 480, 840, api.OK}, {shifts(360, 840), 0, 481, 10441, api.OK}, {shifts(360, 840), 0, 1, 361, api.OK}, {shifts(360, 840), 0, 0, 0, api.OK}, {shifts(360, 840), 900, 0, 900, api.OK}, {shifts(360, 840), 839, 1, 840, api.OK}, {shifts(360, 840), 840, 1, week + 361, api.OK},
		{shifts(0, 10, 10, 20), 15, 10, 10085, api.OK}, {shifts(0, 10, 10, 20), 15, 5, 20, api.OK}, {shifts(0, 10, 10, 20), 15, 6, week + 1, api.OK}, {shifts(0, 10, 15, 20), 5, 5, 10, api.OK}, {shifts(0, 10, 15, 20), 5, 6, 16, api.OK},
		{shifts(0, week), 0, api.MaxTime, api.MaxTime, api.OK}, {shifts(0, week), 1, api.MaxTime, 0, api.ErrTime}, {shifts(0, week), 1, api.MaxTime - 1, api.MaxTime, api.OK}, {shifts(0, week), api.MaxTime, 0, api.MaxTime, api.OK}, {shifts(0, week), api.MaxTime, 1, 0, api.ErrTime},
		{shifts(639, 642), lastWeek, 1, api.MaxTime, api.OK}, {shifts(639, 642), lastWeek, 2, 0, api.ErrTime}, {shifts(641, 642), lastWeek, 0, lastWeek, api.OK}, {shifts(641, 642), lastWeek, 1, 0, api.ErrTime}, {shifts(0, 1), 1, api.MaxTime, 0, api.ErrTime}, {shifts(0, 1), 0, 993, lastWeek + 1, api.OK}, {shifts(0, 1), 0, 994, 0, api.ErrTime},
		{shifts(0, week), -1, 5, 0, api.ErrTime}, {shifts(0, week), -1, -5, 0, api.ErrTime}, {shifts(0, week), api.MaxTime + 1, api.MaxTime + 1, 0, api.ErrTime}, {shifts(0, week), -1, 0, 0, api.ErrTime}, {shifts(0, week), math.MinInt, math.MaxInt, 0, api.ErrTime},
		{shifts(0, week), 0, -1, 0, api.ErrRange}, {shifts(0, week), 0, api.MaxTime + 1, 0, api.ErrRange}, {shifts(0, 1), api.MaxTime, api.MaxTime + 1, 0, api.ErrRange}, {shifts(0, week), 5, math.MinInt, 0, api.ErrRange}, {shifts(0, week), 5, math.MaxInt, 0, api.ErrRange},
	} {
		if n, e := calendar(t, x.l).Add(x.at, x.minutes); n != x.want || e != x.e {
			t.Errorf("%v: Add(%d, %d) = %d, %v; want %d, %v", x.l, x.at, x.minutes, n, e, x.want, x.e)
		}
	}
}

func TestNilCalendar(t *testing.T) { // P7.8
	var c *clock.Calendar
	for _, at := range []int{0, 5, -1, api.MaxTime, api.MaxTime + 1, math.MinInt, math.MaxInt} {
		if c.Open(at) {
			t.Error("Open", at)
		}
		if n, e := c.Next(at); n != 0 || e != api.ErrNil {
			t.Error("Next", at, n, e)
		}
		for _, other := range []int{0, 100, -1, math.MaxInt} {
			if n := c.Work(at, other); n != 0 {
				t.Error("Work", at, other, n)
			}
			if n, e := c.Add(at, other); n != 0 || e != api.ErrNil {
				t.Error("Add", at, other, n, e)
			}
		}
	}
}

func TestSums(t *testing.T) { // P7.9
	random := rand.New(rand.NewSource(4))
	for _, l := range weeks() {
		c := calendar(t, l)
		ofWeek := 0
		for _, s := range l {
			ofWeek += s.Until - s.From
		}
		for range 300 {
			x := []int{random.Intn(api.MaxTime + 1), random.Intn(api.MaxTime + 1), random.Intn(api.MaxTime + 1)}
			slices.Sort(x)
			if parts, whole := c.Work(x[0], x[1])+c.Work(x[1], x[2]), c.Work(x[0], x[2]); parts != whole {
				t.Errorf("%v: the parts of %v have %d, the whole %d", l, x, parts, whole)
			}
			at := random.Intn(api.MaxTime + 1 - week)
			if n := c.Work(at, at+week); n != ofWeek {
				t.Errorf("%v: the week from %d on has %d; want %d", l, at, n, ofWeek)
			}
			if c.Open(at) != c.Open(at+week) || c.Open(at) != c.Open(at%week) {
				t.Errorf("%v: Open(%d) is not the same in every week", l, at)
			}
		}
	}
}

func TestInverse(t *testing.T) { // P7.10
	random := rand.New(rand.NewSource(5))
	for _, l := range weeks() {
		c := calendar(t, l)
		for _, at := range times(l) {
			for _, minutes := range []int{0, 1, 2, 480, random.Intn(20000), random.Intn(api.MaxTime + 1)} {
				n, e := c.Add(at, minutes)
				if e == api.OK && (n < at || c.Work(at, n) != minutes || minutes > 0 && !c.Open(n-1)) {
					t.Errorf("%v: Add(%d, %d) = %d, but Work is %d", l, at, minutes, n, c.Work(at, n))
				}
			}
			n, e := c.Next(at)
			if e == api.OK && (n < at || !c.Open(n) || c.Work(at, n) != 0) {
				t.Errorf("%v: Next(%d) = %d", l, at, n)
			}
		}
	}
}
