package force_test

import (
	"fmt"
	"math"
	"slices"
	"testing"

	"waltzer/api"
	"waltzer/force"
)

// onPath calls all functions that take a path, and returns their results; what they are not asked for is right.
func onPath(path []api.Point, m api.Motor, x api.Limit) (felt, keeps, worst, fastest, run string) {
	p, e := force.Felt(path, api.Change{})
	felt = all(p, e)
	c, is, e := force.Keeps(path, m, x, false)
	keeps = all(c, is, e)
	side, low, high, e := force.Worst(path, m, true)
	worst = all(side, low, high, e)
	n, e := force.Fastest(path, m, x, true)
	fastest = all(n, e)
	l, at, e := force.Run(path, m, x, []int{0})
	run = all(l, at, e)
	return
}

// P3.1 to P3.5: paths at both sides of each bound; each function returns ErrPath, and nothing else, for one that is not valid.
func TestPathErrors(t *testing.T) {
	last := func(p api.Point) []api.Point { return append(still(3), p) }
	first := func(p api.Point) []api.Point { return append([]api.Point{p}, still(3)...) }
	for _, x := range []struct {
		what  string
		path  []api.Point
		valid bool
	}{
		{"nil", nil, false},
		{"empty", []api.Point{}, false},
		{"2 points", still(2), false},
		{"3 points", still(3), true},
		{"60 points", still(60), true},
		{"61 points", still(61), false},
		{"X -10000", last(api.Point{X: -10000}), true},
		{"X -10001", last(api.Point{X: -10001}), false},
		{"X 10000", last(api.Point{X: 10000}), true},
		{"X 10001", last(api.Point{X: 10001}), false},
		{"Y -10000", last(api.Point{Y: -10000}), true},
		{"Y -10001", last(api.Point{Y: -10001}), false},
		{"Y 10000", last(api.Point{Y: 10000}), true},
		{"Y 10001", last(api.Point{Y: 10001}), false},
		{"Z -10000", last(api.Point{Z: -10000}), true},
		{"Z -10001", last(api.Point{Z: -10001}), false},
		{"Z 10000", last(api.Point{Z: 10000}), true},
		{"Z 10001", last(api.Point{Z: 10001}), false},
		{"a first X 10001", first(api.Point{X: 10001}), false},
		{"a first Z -10001", first(api.Point{Z: -10001}), false},
		{"numbers that overflow", first(api.Point{X: math.MinInt, Y: math.MaxInt, Z: math.MinInt}), false},
	} {
		felt, keeps, worst, fastest, run := onPath(x.path, drive, limit)
		if x.valid {
			_, e := force.Felt(x.path, api.Change{})
			same(t, "Felt's error of "+x.what, e, api.OK)
			_, _, e = force.Keeps(x.path, drive, limit, true)
			same(t, "Keeps's error of "+x.what, e, api.OK)
			_, _, _, e = force.Worst(x.path, drive, true)
			same(t, "Worst's error of "+x.what, e, api.OK)
			_, e = force.Fastest(x.path, drive, api.Limit{Side: 200000, Low: -200000, High: 200000}, true)
			same(t, "Fastest's error of "+x.what, e, api.OK)
			_, _, e = force.Run(x.path, drive, limit, []int{0})
			same(t, "Run's error of "+x.what, e, api.OK)
			continue
		}
		same(t, "Felt of "+x.what, felt, all(api.Point{}, api.ErrPath))
		same(t, "Keeps of "+x.what, keeps, all(api.Change{}, false, api.ErrPath))
		same(t, "Worst of "+x.what, worst, all(0, 0, 0, api.ErrPath))
		same(t, "Fastest of "+x.what, fastest, all(0, api.ErrPath))
		same(t, "Run of "+x.what, run, all([]int{}, 0, api.ErrPath))
	}
}

// P3.2 to P3.6: motors at both sides of each bound.
func TestMotorErrors(t *testing.T) {
	for _, x := range []struct {
		m     api.Motor
		valid bool
	}{
		{api.Motor{Top: 1, Ease: 1, Jerk: 1}, true},
		{api.Motor{}, false},
		{api.Motor{Top: 0, Ease: 1, Jerk: 1}, false},
		{api.Motor{Top: -1, Ease: 1, Jerk: 1}, false},
		{api.Motor{Top: 10, Ease: 1, Jerk: 1}, true},
		{api.Motor{Top: 11, Ease: 1, Jerk: 1}, false},
		{api.Motor{Top: 5, Ease: 0, Jerk: 1}, false},
		{api.Motor{Top: 5, Ease: -1, Jerk: 1}, false},
		{api.Motor{Top: 5, Ease: 0, Jerk: 0}, false},
		{api.Motor{Top: 5, Ease: 3, Jerk: 3}, true},
		{api.Motor{Top: 5, Ease: 4, Jerk: 3}, false},
		{api.Motor{Top: 5, Ease: 3, Jerk: 4}, true},
		{api.Motor{Top: 1, Ease: 10, Jerk: 10}, true},
		{api.Motor{Top: 10, Ease: 10, Jerk: 10}, true},
		{api.Motor{Top: 5, Ease: 1, Jerk: 11}, false},
		{api.Motor{Top: 5, Ease: 11, Jerk: 11}, false},
		{api.Motor{Top: math.MaxInt, Ease: math.MinInt, Jerk: math.MaxInt}, false},
		{api.Motor{Top: math.MinInt, Ease: math.MaxInt, Jerk: math.MinInt}, false},
	} {
		_, keeps, worst, fastest, run := onPath(still(3), x.m, limit)
		l, e := force.Stop(x.m, 0)
		if x.valid {
			same(t, fmt.Sprint("Keeps of ", x.m), keeps, all(api.Change{}, true, api.OK))
			same(t, fmt.Sprint("Worst of ", x.m), worst, all(0, 1000, 1000, api.OK))
			same(t, fmt.Sprint("Fastest of ", x.m), fastest, all(x.m.Top, api.OK))
			same(t, fmt.Sprint("Run of ", x.m), run, all([]api.Point{{Z: 1000}}, 0, api.OK))
			same(t, fmt.Sprint("Stop of ", x.m), all(l, e), all([]int{}, api.OK))
			continue
		}
		same(t, fmt.Sprint("Keeps of ", x.m), keeps, all(api.Change{}, false, api.ErrMotor))
		same(t, fmt.Sprint("Worst of ", x.m), worst, all(0, 0, 0, api.ErrMotor))
		same(t, fmt.Sprint("Fastest of ", x.m), fastest, all(0, api.ErrMotor))
		same(t, fmt.Sprint("Run of ", x.m), run, all([]int{}, 0, api.ErrMotor))
		same(t, fmt.Sprint("Stop of ", x.m), all(l, e), all([]int{}, api.ErrMotor))
	}
}

// P3.2, P3.4, P3.5: limits at both sides of each bound.
func TestLimitErrors(t *testing.T) {
	for _, x := range []struct {
		x           api.Limit
		valid, kept bool
	}{
		{api.Limit{Side: 0, Low: 0, High: 2000}, true, true},
		{api.Limit{Side: -1, Low: 0, High: 2000}, false, false},
		{api.Limit{Side: 200000, Low: 0, High: 2000}, true, true},
		{api.Limit{Side: 200001, Low: 0, High: 2000}, false, false},
		{api.Limit{Side: 1, Low: -200000, High: 2000}, true, true},
		{api.Limit{Side: 1, Low: -200001, High: 2000}, false, false},
		{api.Limit{Side: 1, Low: 0, High: 200000}, true, true},
		{api.Limit{Side: 1, Low: 0, High: 200001}, false, false},
		{api.Limit{Side: 1, Low: 200000, High: 200000}, true, false},
		{api.Limit{Side: 1, Low: -200000, High: -200000}, true, false},
		{api.Limit{Side: 1, Low: 200001, High: 200001}, false, false},
		{api.Limit{Side: 1, Low: -200001, High: -200001}, false, false},
		{api.Limit{Side: 1, Low: 1000, High: 1000}, true, true},
		{api.Limit{Side: 1, Low: 1001, High: 1000}, false, false},
		{api.Limit{Side: math.MaxInt, Low: math.MinInt, High: math.MaxInt}, false, false},
		{api.Limit{Side: math.MinInt, Low: 0, High: 2000}, false, false},
	} {
		_, keeps, _, fastest, run := onPath(still(3), drive, x.x)
		switch {
		case !x.valid:
			same(t, fmt.Sprint("Keeps of ", x.x), keeps, all(api.Change{}, false, api.ErrLimit))
			same(t, fmt.Sprint("Fastest of ", x.x), fastest, all(0, api.ErrLimit))
			same(t, fmt.Sprint("Run of ", x.x), run, all([]int{}, 0, api.ErrLimit))
			_, at, e := force.Run(still(3), drive, x.x, slices.Repeat([]int{-1}, 301))
			same(t, fmt.Sprint("Run of ", x.x, " and speeds that are wrong"), all(at, e), all(0, api.ErrLimit))
		case x.kept:
			same(t, fmt.Sprint("Keeps of ", x.x), keeps, all(api.Change{}, true, api.OK))
			same(t, fmt.Sprint("Fastest of ", x.x), fastest, all(2, api.OK))
			same(t, fmt.Sprint("Run of ", x.x), run, all([]api.Point{{Z: 1000}}, 0, api.OK))
		default:
			same(t, fmt.Sprint("Keeps of ", x.x), keeps, all(api.Change{}, false, api.OK))
			same(t, fmt.Sprint("Fastest of ", x.x), fastest, all(0, api.ErrNone))
			same(t, fmt.Sprint("Run of ", x.x), run, all([]int{}, 0, api.ErrLimit))
		}
	}
}

// P3.1 to P3.6: errors come in the order of the arguments.
func TestOrderOfErrors(t *testing.T) {
	wrongMotor, wrongLimit := api.Motor{Top: 99}, api.Limit{Side: -1}
	for _, x := range []struct {
		what string
		path []api.Point
		m    api.Motor
		e    api.Errno
	}{
		{"a wrong path", still(2), wrongMotor, api.ErrPath},
		{"a wrong motor", still(3), wrongMotor, api.ErrMotor},
		{"a wrong limit", still(3), drive, api.ErrLimit},
	} {
		_, keeps, worst, fastest, run := onPath(x.path, x.m, wrongLimit)
		same(t, "Keeps of "+x.what, keeps, all(api.Change{}, false, x.e))
		same(t, "Fastest of "+x.what, fastest, all(0, x.e))
		same(t, "Run of "+x.what, run, all([]int{}, 0, x.e))
		if x.e != api.ErrLimit {
			same(t, "Worst of "+x.what, worst, all(0, 0, 0, x.e))
		}
		_, at, e := force.Run(x.path, x.m, wrongLimit, slices.Repeat([]int{-1}, 301))
		same(t, "Run of wrong speeds, and "+x.what, all(at, e), all(0, x.e))
	}
	_, e := force.Felt(still(2), api.Change{Phase: -1, Before: -1, After: 99})
	same(t, "Felt of a wrong path and a wrong change", e, api.ErrPath)
	_, e = force.Stop(wrongMotor, -1)
	same(t, "Stop of a wrong motor and a wrong speed", e, api.ErrMotor)
}

// rigCase is a change of the rig of the section Examples, and whether it is valid then.
type rigCase struct {
	what   string
	change func(r *api.Rig)
	valid  bool
}

func checkRigs(t *testing.T, l []rigCase) {
	t.Helper()
	for _, x := range l {
		want := api.OK
		if !x.valid {
			want = api.ErrRig
		}
		same(t, "CheckRig of "+x.what, force.CheckRig(with(x.change)), want)
	}
}

// P3.7: seats and weights at both sides of each bound.
func TestCheckRig(t *testing.T) {
	seats := func(n, points int) func(r *api.Rig) {
		return func(r *api.Rig) { r.Seats = slices.Repeat([][]api.Point{still(points)}, n) }
	}
	seatAt := func(x, y, z int) func(r *api.Rig) {
		return func(r *api.Rig) { r.Seats = append(r.Seats, append(still(3), api.Point{X: x, Y: y, Z: z})) }
	}
	lengths := func(l ...int) func(r *api.Rig) {
		return func(r *api.Rig) {
			r.Seats = nil
			for _, n := range l {
				r.Seats = append(r.Seats, still(n))
			}
		}
	}
	frame := func(n int) func(r *api.Rig) { return func(r *api.Rig) { r.Frame = n } }
	weights := func(empty, full int) func(r *api.Rig) {
		return func(r *api.Rig) { r.Empty, r.Full = empty, full }
	}
	checkRigs(t, []rigCase{
		{"as it is", func(r *api.Rig) {}, true},
		{"nothing at all", func(r *api.Rig) { *r = api.Rig{} }, false},
		{"feet alone", func(r *api.Rig) { *r = api.Rig{Feet: square(1)} }, true},
		{"no seats", seats(0, 0), true},
		{"20 seats", seats(20, 3), true},
		{"21 seats", seats(21, 3), false},
		{"seats without points", seats(2, 0), false},
		{"seats with 2 points", seats(2, 2), false},
		{"seats with 3 points", seats(2, 3), true},
		{"seats with 60 points", seats(2, 60), true},
		{"seats with 61 points", seats(2, 61), false},
		{"seats with 3 and 4 points", lengths(3, 4), false},
		{"seats with 4, 4 and 3 points", lengths(4, 4, 3), false},
		{"seats with 5, 4 and 5 points", lengths(5, 4, 5), false},
		{"a seat at X 10000", seatAt(10000, 0, 0), true},
		{"a seat at X 10001", seatAt(10001, 0, 0), false},
		{"a seat at Y -10000", seatAt(0, -10000, 0), true},
		{"a seat at Y -10001", seatAt(0, -10001, 0), false},
		{"a seat at Z 10000", seatAt(0, 0, 10000), true},
		{"a seat at Z 10001", seatAt(0, 0, 10001), false},
		{"frame -1", frame(-1), false},
		{"frame 0", frame(0), true},
		{"frame 1000000", frame(1000000), true},
		{"frame 1000001", frame(1000001), false},
		{"empty -1", weights(-1, 3), false},
		{"empty 0, full 0", weights(0, 0), true},
		{"empty 3, full 3", weights(3, 3), true},
		{"empty 4, full 3", weights(4, 3), false},
		{"full -1", weights(-1, -1), false},
		{"full 1000000", weights(1, 1000000), true},
		{"full 1000001", weights(1, 1000001), false},
		{"empty 1000000, full 1000000", weights(1000000, 1000000), true},
		{"empty 1000001, full 1000001", weights(1000001, 1000001), false},
		{"empty above full without seats", func(r *api.Rig) { r.Seats, r.Empty = nil, 4 }, false},
	})
}

// P3.7: the center, and how many feet there are and where, at both sides of each bound.
func TestCheckPlaces(t *testing.T) {
	center := func(x, y, z int) func(r *api.Rig) {
		return func(r *api.Rig) { r.Center = api.Point{X: x, Y: y, Z: z} }
	}
	feet := func(l ...api.Point) func(r *api.Rig) { return func(r *api.Rig) { r.Feet = l } }
	corner := func(x, y, z int) func(r *api.Rig) {
		return func(r *api.Rig) { r.Feet[2] = api.Point{X: x, Y: y, Z: z} }
	}
	checkRigs(t, []rigCase{
		{"the center outside of the feet", center(60, 0, 0), true},
		{"the center at X 10000", center(10000, 0, 0), true},
		{"the center at X 10001", center(10001, 0, 0), false},
		{"the center at X -10000", center(-10000, 0, 0), true},
		{"the center at X -10001", center(-10001, 0, 0), false},
		{"the center at Y 10000", center(0, 10000, 0), true},
		{"the center at Y 10001", center(0, 10001, 0), false},
		{"the center at Y -10000", center(0, -10000, 0), true},
		{"the center at Y -10001", center(0, -10001, 0), false},
		{"the center above the ground", center(0, 0, 10000), true},
		{"the center below the ground", center(0, 0, -10000), true},
		{"no feet", feet(), false},
		{"1 foot", feet(bowl(1)...), false},
		{"2 feet", feet(bowl(2)...), false},
		{"3 feet", feet(bowl(3)...), true},
		{"8 feet", feet(bowl(8)...), true},
		{"9 feet", feet(bowl(9)...), false},
		{"feet at the bounds", feet(square(10000)...), true},
		{"a foot at X 10000", corner(10000, 50, 0), true},
		{"a foot at X 10001", corner(10001, 50, 0), false},
		{"a foot at Y 10000", corner(50, 10000, 0), true},
		{"a foot at Y 10001", corner(50, 10001, 0), false},
		{"feet beyond the bounds", feet(square(10001)...), false},
		{"a foot at Z 1", corner(50, 50, 1), false},
		{"a foot at Z -1", corner(50, 50, -1), false},
		{"the last foot at Z 1", func(r *api.Rig) { r.Feet[3].Z = 1 }, false},
		{"numbers that overflow", feet(api.Point{X: math.MinInt, Y: math.MinInt}, api.Point{X: math.MaxInt}, api.Point{Y: math.MaxInt}), false},
	})
}

// P3.7: feet have to be the corners of a convex polygon, counterclockwise, no three of them on one line.
func TestCheckFeet(t *testing.T) {
	pentagon := []api.Point{{Y: 100}, {X: -95, Y: 31}, {X: -59, Y: -81}, {X: 59, Y: -81}, {X: 95, Y: 31}}
	heptagon := []api.Point{{X: 100}, {X: 62, Y: 78}, {X: -22, Y: 97}, {X: -90, Y: 43}, {X: -90, Y: -43}, {X: -22, Y: -97}, {X: 62, Y: -78}}
	pick := func(l []api.Point, numbers ...int) (feet []api.Point) {
		for _, i := range numbers {
			feet = append(feet, l[i])
		}
		return feet
	}
	for _, x := range []struct {
		what  string
		feet  []api.Point
		valid bool
	}{
		{"a square", square(50), true},
		{"a square, clockwise", pick(square(50), 3, 2, 1, 0), false},
		{"a square from another corner on", pick(square(50), 2, 3, 0, 1), true},
		{"a square that crosses itself", pick(square(50), 0, 2, 1, 3), false},
		{"a pentagon", pentagon, true},
		{"a pentagon, clockwise", pick(pentagon, 4, 3, 2, 1, 0), false},
		{"a star of five", pick(pentagon, 0, 2, 4, 1, 3), false},
		{"a star of five, clockwise", pick(pentagon, 0, 3, 1, 4, 2), false},
		{"a heptagon", heptagon, true},
		{"a star of seven", pick(heptagon, 0, 2, 4, 6, 1, 3, 5), false},
		{"a sharper star of seven", pick(heptagon, 0, 3, 6, 2, 5, 1, 4), false},
		{"twice around a triangle", pick(pentagon, 0, 1, 3, 0, 1, 3), false},
		{"a foot twice, one behind the other", pick(pentagon, 0, 1, 1, 2, 3), false},
		{"the first foot at the end again", pick(pentagon, 0, 1, 2, 3, 4, 0), false},
		{"a foot on a line", slices.Insert(square(50), 2, api.Point{X: 50, Y: 7}), false},
		{"a foot on the last line", append(square(50), api.Point{X: -50, Y: 7}), false},
		{"a foot on the first line", slices.Insert(square(50), 1, api.Point{X: 7, Y: -50}), false},
		{"a first foot on a line", slices.Insert(square(50), 0, api.Point{X: -50, Y: -10}), false},
		{"a foot just outside of a line", slices.Insert(square(50), 2, api.Point{X: 51, Y: 7}), true},
		{"a foot just inside of a line", slices.Insert(square(50), 2, api.Point{X: 49, Y: 7}), false},
		{"three on one line", []api.Point{{X: 1, Y: 1}, {X: 2, Y: 2}, {X: 3, Y: 3}}, false},
		{"three at one point", pick(pentagon, 0, 0, 0), false},
		{"a thin triangle", []api.Point{{X: -10000, Y: -10000}, {X: 10000, Y: 9999}, {X: 10000, Y: 10000}}, true},
		{"an arrow", []api.Point{{X: -10, Y: -10}, {Y: -5}, {X: 10, Y: -10}, {Y: 10}}, false},
	} {
		want := api.OK
		if !x.valid {
			want = api.ErrRig
		}
		same(t, "CheckRig of "+x.what, force.CheckRig(api.Rig{Feet: x.feet}), want)
	}
}

// P3.8 to P3.12: a rig that is not valid comes before all other errors, and leaves nothing but the error.
func TestWrongRig(t *testing.T) {
	for _, r := range []api.Rig{{}, with(func(r *api.Rig) { r.Full = 0 }), with(func(r *api.Rig) { r.Seats[0] = nil })} {
		n, e := force.Moment(r, []bool{true, true}, -1, -1)
		same(t, "Moment", all(n, e), all(0, api.ErrRig))
		n, phase, line, e := force.Least(r)
		same(t, "Least", all(n, phase, line, e), all(0, 0, 0, api.ErrRig))
		l, phase, line, found, e := force.Tips(r)
		same(t, "Tips", all(l, phase, line, found, e), all([]bool{}, 0, 0, false, api.ErrRig))
		n, e = force.Ballast(r)
		same(t, "Ballast", all(n, e), all(0, api.ErrRig))
		is, e := force.Bears(r, -1)
		same(t, "Bears", all(is, e), all(false, api.ErrRig))
	}
}

// P3.8: the arguments of Moment at both sides of each bound.
func TestMomentErrors(t *testing.T) {
	alone := with(func(r *api.Rig) { r.Seats = nil })
	for _, x := range []struct {
		what        string
		r           api.Rig
		loading     []bool
		phase, line int
		e           api.Errno
	}{
		{"no loading for a seat", exampleRig(), nil, 0, 0, api.ErrArg},
		{"a loading for two seats", exampleRig(), make([]bool, 2), 0, 0, api.ErrArg},
		{"the phase -1", exampleRig(), make([]bool, 1), -1, 0, api.ErrArg},
		{"the phase 3", exampleRig(), make([]bool, 1), 3, 0, api.OK},
		{"the phase 4", exampleRig(), make([]bool, 1), 4, 0, api.ErrArg},
		{"the line -1", exampleRig(), make([]bool, 1), 0, -1, api.ErrArg},
		{"the line 3", exampleRig(), make([]bool, 1), 0, 3, api.OK},
		{"the line 4", exampleRig(), make([]bool, 1), 0, 4, api.ErrArg},
		{"a phase that overflows", exampleRig(), make([]bool, 1), math.MinInt, 0, api.ErrArg},
		{"a line that overflows", exampleRig(), make([]bool, 1), 0, math.MaxInt, api.ErrArg},
		{"no seats and nil", alone, nil, 0, 0, api.OK},
		{"no seats and an empty loading", alone, []bool{}, 0, 3, api.OK},
		{"no seats and a loading", alone, make([]bool, 1), 0, 0, api.ErrArg},
		{"no seats and the phase 1", alone, nil, 1, 0, api.ErrArg},
	} {
		n, e := force.Moment(x.r, x.loading, x.phase, x.line)
		same(t, "Moment's error of "+x.what, e, x.e)
		if x.e != api.OK {
			same(t, "Moment of "+x.what, n, 0)
		}
	}
}
