package force_test

import (
	"fmt"
	"math"
	"slices"
	"testing"

	"waltzer/api"
	"waltzer/force"
)

func change(phase, before, after int) api.Change {
	return api.Change{Phase: phase, Before: before, After: after}
}

// P3.1: Felt of the section Examples, and at phases that go around the path several times.
func TestFelt(t *testing.T) {
	short := []api.Point{{X: 1}, {Y: 10}, {Z: 100}}
	for _, x := range []struct {
		path []api.Point
		c    api.Change
		want api.Point
	}{
		{example(), change(0, 1, 1), api.Point{X: -200, Z: 1000}},
		{example(), change(0, 0, 0), api.Point{Z: 1000}},
		{example(), change(0, 0, 1), api.Point{X: -100, Y: 100, Z: 1000}},
		{example(), change(0, 1, 0), api.Point{X: -100, Y: -100, Z: 1000}},
		{example(), change(1, 1, 2), api.Point{X: 100, Y: -300, Z: 1000}},
		{example(), change(1, 2, 1), api.Point{X: -100, Y: -300, Z: 1000}},
		{example(), change(3, 2, 2), api.Point{Y: 400, Z: 1000}},
		{example(), change(3, 4, 4), api.Point{Z: 1000}},
		{short, change(1, 10, 10), api.Point{X: 1, Y: -20, Z: 1100}},
		{short, change(0, 10, 0), api.Point{X: -1, Z: 1100}},
		{short, change(0, 0, 10), api.Point{X: -1, Y: 10, Z: 1000}},
		{short, change(2, 7, 8), api.Point{Y: 20, Z: 800}},
		{short, change(2, 0, 0), api.Point{Z: 1000}},
	} {
		p, e := force.Felt(x.path, x.c)
		same(t, fmt.Sprint("Felt at ", x.c), all(p, e), all(x.want, api.OK))
	}
}

// P3.1: what is felt may be beyond all points.
func TestFeltFarAway(t *testing.T) {
	near, far := api.Point{X: -10000, Y: -10000, Z: -10000}, api.Point{X: 10000, Y: 10000, Z: 10000}
	path := []api.Point{near, far, far}
	p, e := force.Felt(path, change(0, 1, 1))
	same(t, "Felt from far away", all(p, e), all(api.Point{X: 40000, Y: 40000, Z: 41000}, api.OK))
	p, e = force.Felt([]api.Point{far, near, near}, change(0, 2, 2))
	same(t, "Felt at a point far away", all(p, e), all(api.Point{X: -40000, Y: -40000, Z: -39000}, api.OK))
	side, low, high, e := force.Worst(path, api.Motor{Top: 1, Ease: 1, Jerk: 1}, false)
	same(t, "Worst from far away", all(side, low, high, e), all(3200000000, -19000, 41000, api.OK))
}

// P3.1: a change at both sides of each bound.
func TestFeltErrors(t *testing.T) {
	for _, x := range []struct {
		c  api.Change
		ok bool
	}{
		{change(-1, 0, 0), false},
		{change(0, 0, 0), true},
		{change(3, 0, 0), true},
		{change(4, 0, 0), false},
		{change(0, -1, 0), false},
		{change(0, 10, 0), true},
		{change(0, 11, 0), false},
		{change(0, 0, -1), false},
		{change(0, 0, 10), true},
		{change(0, 0, 11), false},
		{change(math.MinInt, 0, 0), false},
		{change(math.MaxInt, math.MinInt, math.MaxInt), false},
	} {
		p, e := force.Felt(example(), x.c)
		if x.ok {
			same(t, fmt.Sprint("Felt's error at ", x.c), e, api.OK)
			continue
		}
		same(t, fmt.Sprint("Felt at ", x.c), all(p, e), all(api.Point{}, api.ErrArg))
	}
	// Felt asks for no motor: any two speeds will do.
	p, e := force.Felt(example(), change(0, 0, 10))
	same(t, "Felt from 0 to 10", all(p, e), all(api.Point{X: -200, Z: 1000}, api.OK))
}

// hill has these heights, one above the other.
func hill(heights ...int) (path []api.Point) {
	for _, z := range heights {
		path = append(path, api.Point{Z: z})
	}
	return path
}

// wave goes up, down and up again: with speeds up to 3, at most 18 is felt on it if the speed changes by 1, 20 if by 2, and 25 if by 3.
func wave() []api.Point {
	return hill(0, 9, 16, 21, 24, 25, 24, 21, 16, 9, 0, -9, -16, -21, -24, -25, -24, -21, -16, -9)
}

// quick is a motor whose brake matters on a wave, and steady the limit that tells.
var (
	quick  = api.Motor{Top: 3, Ease: 1, Jerk: 3}
	steady = api.Limit{Side: 0, Low: 982, High: 1018}
)

// P3.2: Keeps of the section Examples, and at the bounds of a limit.
func TestKeeps(t *testing.T) {
	for _, x := range []struct {
		what  string
		path  []api.Point
		m     api.Motor
		x     api.Limit
		fails bool
		first api.Change
		is    bool
	}{
		{"the examples", example(), drive, limit, false, change(0, 1, 2), false},
		{"just so much sideways", example(), drive, api.Limit{Side: 400, High: 2000}, false, change(0, 0, 0), true},
		{"too much sideways", example(), drive, api.Limit{Side: 399, High: 2000}, false, change(0, 2, 2), false},
		{"just enough upwards", example(), drive, api.Limit{Side: 400, Low: 1000, High: 1000}, false, change(0, 0, 0), true},
		{"too little upwards", example(), drive, api.Limit{Side: 400, Low: 1001, High: 2000}, false, change(0, 0, 0), false},
		{"too much upwards", example(), drive, api.Limit{Side: 400, High: 999}, false, change(0, 0, 0), false},
		{"a hill", hill(0, 0, 50, 0, 0, 0), api.Motor{Top: 1, Ease: 1, Jerk: 1}, api.Limit{Low: 900, High: 1050}, false, change(0, 0, 0), true},
		{"a hill that is too low", hill(0, 0, 50, 0, 0, 0), api.Motor{Top: 1, Ease: 1, Jerk: 1}, api.Limit{Low: 901, High: 1050}, false, change(2, 1, 1), false},
		{"a hill that is too high", hill(0, 0, 50, 0, 0, 0), api.Motor{Top: 1, Ease: 1, Jerk: 1}, api.Limit{Low: 900, High: 1049}, false, change(1, 0, 1), false},
		{"a wave and a brake that works", wave(), quick, steady, false, change(0, 0, 0), true},
		{"a wave and a brake that fails", wave(), quick, steady, true, change(0, 0, 3), false},
		{"a wave and a brake that fails a little", wave(), api.Motor{Top: 3, Ease: 1, Jerk: 2}, steady, true, change(2, 3, 1), false},
		{"sideways and a brake that works", example(), drive, api.Limit{Side: 199, High: 2000}, false, change(0, 1, 1), false},
		{"sideways and a brake that fails", example(), drive, api.Limit{Side: 199, High: 2000}, true, change(0, 0, 2), false},
	} {
		c, is, e := force.Keeps(x.path, x.m, x.x, x.fails)
		same(t, "Keeps of "+x.what, all(c, is, e), all(x.first, x.is, api.OK))
	}
}

// P3.2: the first change is that with the first phase, then with the lowest Before, then with the lowest After.
func TestKeepsFirst(t *testing.T) {
	nothing := api.Limit{}
	m := api.Motor{Top: 3, Ease: 1, Jerk: 3}
	c, is, e := force.Keeps(still(3), m, nothing, true)
	same(t, "Keeps of a limit that nothing keeps", all(c, is, e), all(change(0, 0, 0), false, api.OK))
	// A rider feels something only where the seat goes to the phase 3, leaves it, or comes from there.
	path := append(still(3), append([]api.Point{{X: 1, Y: 2, Z: 9}}, still(5)...)...)
	weight := api.Limit{Low: 1000, High: 1000}
	c, is, e = force.Keeps(path, m, weight, false)
	same(t, "Keeps, first where the brake works", all(c, is, e), all(change(0, 2, 3), false, api.OK))
	c, is, e = force.Keeps(path, m, weight, true)
	same(t, "Keeps, first where the brake fails", all(c, is, e), all(change(0, 0, 3), false, api.OK))
	c, is, e = force.Keeps(path, api.Motor{Top: 1, Ease: 1, Jerk: 1}, weight, false)
	same(t, "Keeps, first at a phase behind", all(c, is, e), all(change(2, 0, 1), false, api.OK))
}

// P3.3: Worst of the section Examples, with both brakes, and up and down.
func TestWorst(t *testing.T) {
	for _, x := range []struct {
		what            string
		path            []api.Point
		m               api.Motor
		fails           bool
		side, low, high int
	}{
		{"the examples", example(), drive, false, 160000, 1000, 1000},
		{"the examples, a brake that fails", example(), drive, true, 160000, 1000, 1000},
		{"nothing that is felt", still(3), drive, true, 0, 1000, 1000},
		{"a slow motor", example(), api.Motor{Top: 1, Ease: 1, Jerk: 1}, false, 40000, 1000, 1000},
		{"a hill", hill(0, 0, 50, 0, 0, 0), api.Motor{Top: 1, Ease: 1, Jerk: 1}, false, 0, 900, 1050},
		{"below gravity", hill(3000, 0, 0), api.Motor{Top: 1, Ease: 1, Jerk: 1}, false, 0, -5000, 4000},
		{"a wave and a brake that works", wave(), quick, false, 0, 982, 1018},
		{"a wave and a brake that fails", wave(), quick, true, 0, 975, 1025},
		{"X and Y together", []api.Point{{X: 3, Y: -4}, {}, {}}, api.Motor{Top: 1, Ease: 1, Jerk: 1}, false, 100, 1000, 1000},
	} {
		side, low, high, e := force.Worst(x.path, x.m, x.fails)
		same(t, "Worst of "+x.what, all(side, low, high, e), all(x.side, x.low, x.high, api.OK))
	}
}

// P3.4: Fastest of the section Examples, and of limits that are kept at all speeds, or at none.
func TestFastest(t *testing.T) {
	for _, x := range []struct {
		what  string
		path  []api.Point
		m     api.Motor
		x     api.Limit
		fails bool
		top   int
		e     api.Errno
	}{
		{"the examples", example(), drive, limit, false, 1, api.OK},
		{"all that the motor can", example(), drive, api.Limit{Side: 400, High: 2000}, false, 2, api.OK},
		{"no more than the motor can", still(3), api.Motor{Top: 4, Ease: 1, Jerk: 1}, limit, false, 4, api.OK},
		{"the fastest motor", still(3), api.Motor{Top: 10, Ease: 1, Jerk: 1}, limit, false, 10, api.OK},
		{"at 1 already too much", example(), drive, api.Limit{Side: 199, High: 2000}, false, 0, api.ErrNone},
		{"at 1 just not too much", example(), drive, api.Limit{Side: 200, High: 2000}, false, 1, api.OK},
		{"a wave and a brake that works", wave(), quick, steady, false, 3, api.OK},
		{"a wave and a brake that fails", wave(), quick, steady, true, 2, api.OK},
		{"what is not kept at rest", still(3), drive, api.Limit{Low: 1001, High: 2000}, false, 0, api.ErrNone},
	} {
		n, e := force.Fastest(x.path, x.m, x.x, x.fails)
		same(t, "Fastest of "+x.what, all(n, e), all(x.top, x.e))
	}
}

// P3.5: Run of the section Examples, of no speeds, and around the path.
func TestRun(t *testing.T) {
	wide := api.Limit{Side: 200000, Low: -200000, High: 200000}
	for _, x := range []struct {
		what   string
		m      api.Motor
		x      api.Limit
		speeds []int
		felt   []api.Point
	}{
		{"the examples", drive, limit, []int{1, 1, 0}, []api.Point{{X: -100, Y: 100, Z: 1000}, {Y: -200, Z: 1000}, {X: 100, Y: 100, Z: 1000}}},
		{"no speeds", drive, limit, []int{}, nil},
		{"nil", drive, limit, nil, nil},
		{"rest", drive, limit, []int{0, 0}, []api.Point{{Z: 1000}, {Z: 1000}}},
		{"once around and on", drive, wide, []int{1, 2, 2, 1, 0}, []api.Point{
			{X: -100, Y: 100, Z: 1000}, // at the phase 0
			{X: 100, Y: -300, Z: 1000}, // at 1
			{Y: 400, Z: 1000},          // at 3
			{X: -100, Y: -300, Z: 1000},
			{X: 100, Y: 100, Z: 1000}, // at 2
		}},
		{"a quick start", api.Motor{Top: 10, Ease: 10, Jerk: 10}, wide, []int{10, 0}, []api.Point{{X: -200, Z: 1000}, {X: 200, Z: 1000}}},
		{"just so much sideways", drive, api.Limit{Side: 200, High: 2000}, []int{1, 1, 1}, []api.Point{{X: -100, Y: 100, Z: 1000}, {Y: -200, Z: 1000}, {X: 200, Z: 1000}}},
	} {
		felt, at, e := force.Run(example(), x.m, x.x, x.speeds)
		same(t, "Run of "+x.what, all(felt, at, e), all(x.felt, 0, api.OK))
	}
}

// P3.5: the errors of speeds: too many of them, then the first that is not possible, then the first at which the limit is not kept.
func TestRunErrors(t *testing.T) {
	slow := api.Motor{Top: 2, Ease: 1, Jerk: 2}
	for _, x := range []struct {
		what   string
		m      api.Motor
		x      api.Limit
		speeds []int
		at     int
		e      api.Errno
	}{
		{"300 speeds", slow, limit, make([]int, 300), 0, api.OK},
		{"301 speeds", slow, limit, make([]int, 301), 0, api.ErrMany},
		{"301 wrong speeds", slow, limit, slices.Repeat([]int{-1}, 301), 0, api.ErrMany},
		{"301 speeds, and a limit that is not kept", slow, api.Limit{}, make([]int, 301), 0, api.ErrMany},
		{"a first speed -1", slow, limit, []int{-1}, 0, api.ErrArg},
		{"a first speed above Ease", slow, limit, []int{2}, 0, api.ErrArg},
		{"a second speed -1", slow, limit, []int{0, -1}, 1, api.ErrArg},
		{"a speed above Top", slow, limit, []int{1, 1, 3}, 2, api.ErrArg},
		{"a speed above Top by less than Ease", api.Motor{Top: 2, Ease: 3, Jerk: 3}, limit, []int{0, 3}, 1, api.ErrArg},
		{"a speed below 0 by less than Ease", api.Motor{Top: 2, Ease: 3, Jerk: 3}, limit, []int{0, 1, -1}, 2, api.ErrArg},
		{"speeding up by more than Ease", slow, limit, []int{0, 2, 0}, 1, api.ErrArg},
		{"braking by more than Ease", slow, api.Limit{Side: 500, High: 2000}, []int{1, 2, 0}, 2, api.ErrArg},
		{"a last speed that is wrong, behind the limit", slow, api.Limit{}, []int{1, 1, 1, 9}, 3, api.ErrArg},
		{"two wrong speeds", slow, limit, []int{0, 9, -9}, 1, api.ErrArg},
		{"speeds that overflow", slow, limit, []int{0, math.MinInt, math.MaxInt}, 1, api.ErrArg},
		{"a first speed that overflows", slow, limit, []int{math.MaxInt}, 0, api.ErrArg},
		{"the limit at once", slow, api.Limit{}, []int{0, 1}, 0, api.ErrLimit},
		{"the limit at the second speed", slow, limit, []int{1, 2, 2}, 1, api.ErrLimit},
		{"the limit at the third speed", slow, api.Limit{Side: 399, High: 2000}, []int{1, 2, 2, 2}, 2, api.ErrLimit},
		{"too little upwards", slow, api.Limit{Side: 400, Low: 1001, High: 2000}, []int{0}, 0, api.ErrLimit},
		{"too much upwards", slow, api.Limit{Side: 400, High: 999}, []int{0}, 0, api.ErrLimit},
	} {
		felt, at, e := force.Run(example(), x.m, x.x, x.speeds)
		same(t, "Run of "+x.what, all(at, e), all(x.at, x.e))
		want := 0
		if x.e == api.OK {
			want = len(x.speeds)
		}
		same(t, "points of the run of "+x.what, len(felt), want)
	}
}

// P3.6: Stop from all that is at the bounds.
func TestStop(t *testing.T) {
	m := func(top, ease int) api.Motor { return api.Motor{Top: top, Ease: ease, Jerk: api.MaxTop} }
	for _, x := range []struct {
		m      api.Motor
		speed  int
		speeds []int
		e      api.Errno
	}{
		{drive, 2, []int{1, 0}, api.OK},
		{drive, 1, []int{0}, api.OK},
		{drive, 0, nil, api.OK},
		{drive, -1, nil, api.ErrArg},
		{drive, 3, nil, api.ErrArg},
		{drive, math.MinInt, nil, api.ErrArg},
		{drive, math.MaxInt, nil, api.ErrArg},
		{m(5, 2), 5, []int{3, 1, 0}, api.OK},
		{m(5, 2), 4, []int{2, 0}, api.OK},
		{m(5, 5), 5, []int{0}, api.OK},
		{m(5, 4), 5, []int{1, 0}, api.OK},
		{m(2, 10), 2, []int{0}, api.OK},
		{m(10, 1), 10, []int{9, 8, 7, 6, 5, 4, 3, 2, 1, 0}, api.OK},
		{m(10, 3), 10, []int{7, 4, 1, 0}, api.OK},
	} {
		l, e := force.Stop(x.m, x.speed)
		same(t, fmt.Sprint("Stop of ", x.m, " from ", x.speed), all(l, e), all(x.speeds, x.e))
	}
}
